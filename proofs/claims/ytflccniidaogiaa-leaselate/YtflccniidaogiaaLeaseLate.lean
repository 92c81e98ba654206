/- LeaseLate: for every list of leases and every two times: the statement's function returns true; nothing that was there is changed. No condition. -/
import Derived.Test.YtflccniidaogiaaLeaseL
import Derived.Test.YtflccniidaogiaaLeaseP
import Derived.Test.YtflccniidaogiaaLeaseOpen
namespace Go.Proofs.Ytflccniidaogiaa.leaseLate
open Go.ChangeShapes Go.WideShapes Go.ChangeAt Go.RowKit Go.Proofs.Ytflccniidaogiaa Go.Proofs.Ytflccniidaogiaa.Lea
set_option linter.unusedVariables false

theorem own : ownKnob Try.prog.godebug = none := by kernel_rfl

set_option maxRecDepth 100000 in
set_option maxHeartbeats 4000000 in
theorem core {a : Option Addr} {n c : Nat} {xs : LS} (w : World) (h : LL w a n c xs) (now later : Int) :
    Calls Try.prog 6 #[.slice a n c, .int .i64 now, .int .i64 later] w fun e w' => e = .returned (.bool true) ∧ Below w.heap.size w w' := by
  have HC : Hid (LL w a n c xs) := h
  have HN : Hid (xs.length = n) := h.len
  by_cases hr : Rt xs
  · have hn4 : n ≤ 4 := by rw [← HN.out]; exact hr.few
    obtain ⟨zs, hz⟩ : ∃ zs, lateL now xs = zs := ⟨_, rfl⟩
    obtain ⟨ys, hy⟩ : ∃ ys, lateL later xs = ys := ⟨_, rfl⟩
    obtain ⟨z, hzl⟩ : ∃ z, zs.length = z := ⟨_, rfl⟩
    obtain ⟨y, hyl⟩ : ∃ y, ys.length = y := ⟨_, rfl⟩
    have hz4 : z ≤ 4 := by have := late_len now xs; rw [hz, hzl, HN.out] at this; omega
    have hy4 : y ≤ 4 := by have := late_len later xs; rw [hy, hyl, HN.out] at this; omega
    have hmore : now ≤ later → z ≤ y := fun h => by have := late_more h xs; rw [hz, hy, hzl, hyl] at this; exact this
    have CL1 : Hid (∀ W, Below w.heap.size w W → Calls Try.prog 10 #[.slice a n c, .int .i64 now] W fun e w' => NumR zs z (.int .i64 0) e w' ∧ Below W.heap.size W w') := fun W hb => late_val (h.below hb) now zs true z (by rw [lateX_yes hr, hz]) hzl
    have CL2 : Hid (∀ W, Below w.heap.size w W → Calls Try.prog 10 #[.slice a n c, .int .i64 later] W fun e w' => NumR ys y (.int .i64 0) e w' ∧ Below W.heap.size W w') := fun W hb => late_val (h.below hb) later ys true y (by rw [lateX_yes hr, hy]) hyl
    have HZ : Hid (lateL now xs = zs) := hz
    have HZL : Hid (zs.length = z) := hzl
    have hend : (decide (later < now) || decide (z ≤ y)) = true := by
      by_cases hl : later < now
      · simp [hl]
      · have := hmore (by omega); simp [this]
    clear h hr hz hy hzl hyl hmore
    have M1 : Hid True := trivial
    go_enter Try.func6, Try.ntmps6
    go_wp2_with (first
      | (go_at_call 7; refine (examples_val _).mono ?_; rintro e w1 ⟨rfl, b1⟩; have B1 : Hid (Below w.heap.size w w1) := b1; clear b1)
      | (go_at_call 10; have m := M1.out; refine (CL1.out _ B1.out).mono ?_; rintro e w2 ⟨⟨a2, b2, c2, rfl, hn2, hI2⟩, bb2⟩; have HI2 : Hid (Ints w2 .i64 a2 b2 0 zs) := hI2; have B2 : Hid (Below w.heap.size w w2) := bel_tr B1.out bb2; clear hn2 hI2 bb2 m M1))
    go_loopw [10, 11] (fun v10 v11 wr => ∃ i t : Nat, i ≤ n ∧ v11 = .int .i64 i ∧ v10 = .int .i64 t ∧ (lateL now (xs.take i)).length = t ∧ Below w2.heap.size w2 wr) (fun _ v11 _ => n - (intOf v11).toNat)
    case atStart => exact ⟨0, 0, by omega, rfl, rfl, rfl, Below.refl _ _⟩
    case round =>
      obtain ⟨i, t, hi, rfl, rfl, ht, hb⟩ := hrel
      have HB : Hid (Below w2.heap.size w2 wr) := hb
      have HT : Hid ((lateL now (xs.take i)).length = t) := ht
      by_cases hlt : i < n
      · have hix : i < xs.length := by rw [HN.out]; exact hlt
        obtain ⟨b, off, rfl, hat⟩ := ((HC.out.below B2.out).below hb).at (by omega)
        obtain ⟨e0, e1⟩ := hat i hix
        have HTN : Hid (lateL now (xs.take (i + 1)) = lateL now (xs.take i) ++ (if xs[i].u < now then [xs[i].c] else [])) := late_take now xs i hix
        have HIN : Hid (xs[i].u < now → t < zs.length ∧ ∀ h : t < zs.length, zs[t] = xs[i].c) := fun hu => by
          obtain ⟨k1, k2⟩ := late_at hix hu HZ.out
          have := HT.out
          subst this
          exact ⟨k1, fun _ => k2⟩
        have hIr := HI2.out.below hb
        clear hat ht
        by_cases hu : xs[i].u < now
        · obtain ⟨k1, k2⟩ := HIN.out hu
          have k3 := k2 k1
          obtain rfl := hIr.addr (by omega)
          have q0 := hIr.cell t k1
          rw [k3, Nat.zero_add] at q0
          rw [if_pos hu] at HTN
          have htz : t < z := by rw [← HZL.out]; exact k1
          have htz2 : ((t : Int) == (z : Int)) = false := by simp; omega
          have HTT : Hid ((lateL now (xs.take (i + 1))).length = t + 1) := by show _ = _; rw [HTN.out, List.length_append, HT.out]; rfl
          have hun : ¬ now ≤ xs[i].u := by omega
          clear HTN HIN k1 k2 k3 hIr hb hu
          generalize xs[i].c = cc at *
          generalize xs[i].u = uu at *
          clear hix
          go_wp2
          go_quiet (fail)
          go_wp2
          go_roundw
          case rel => exact ⟨i + 1, t + 1, by omega, by go_num, by go_num, HTT.out, bel_tr HB.out (below_drewN (Below.refl _ _) _)⟩
          case measure => simp [intOf]; omega
        · rw [if_neg hu, List.append_nil] at HTN
          have HTT : Hid ((lateL now (xs.take (i + 1))).length = t) := by show _ = _; rw [HTN.out, HT.out]
          have hun : now ≤ xs[i].u := by omega
          clear HTN HIN hIr hb hu
          generalize xs[i].c = cc at *
          generalize xs[i].u = uu at *
          clear hix
          go_wp2
          go_roundw
          case rel => exact ⟨i + 1, t, by omega, by go_num, rfl, HTT.out, HB.out⟩
          case measure => simp [intOf]; omega
      · obtain rfl : i = n := by omega
        have hgd : decide ((i : Int) < (i : Int)) = false := decide_eq_false (by omega)
        rw [List.take_of_length_le (by rw [HN.out]; omega), HZ.out, HZL.out] at ht
        subst ht
        clear hb hlt
        go_wp2_with (go_at_call 10; refine (CL2.out _ (bel_tr B2.out HB.out)).mono ?_; rintro e w3 ⟨⟨a3, b3, c3, rfl, hn3, hI3⟩, bb3⟩; have B3 : Hid (Below w.heap.size w w3) := bel_tr (bel_tr B2.out HB.out) bb3; clear hn3 hI3 bb3)
        all_goals
          go_ret
          exact ⟨rfl, B3.out⟩
  · have CL1 : Hid (∀ W, Below w.heap.size w W → Calls Try.prog 10 #[.slice a n c, .int .i64 now] W fun e w' => NumR [] 0 (.int .i64 1) e w' ∧ Below W.heap.size W w') := fun W hb => late_val (h.below hb) now [] false 0 (lateX_no hr) rfl
    have CR : Hid (∀ W, Below w.heap.size w W → Calls Try.prog 13 #[.slice a n c] W fun e w' => e = .returned (.bool false) ∧ Below W.heap.size W w') := fun W hb => right_val (h.below hb) false ⟨fun e => (by cases e), fun e => absurd e hr⟩
    clear h hr
    go_enter Try.func6, Try.ntmps6
    go_wp2_with (first
      | (go_at_call 7; refine (examples_val _).mono ?_; rintro e w1 ⟨rfl, b1⟩; have B1 : Hid (Below w.heap.size w w1) := b1; clear b1)
      | (go_at_call 10; refine (CL1.out _ B1.out).mono ?_; rintro e w2 ⟨⟨a2, b2, c2, rfl, hn2, hI2⟩, bb2⟩; have B2 : Hid (Below w.heap.size w w2) := bel_tr B1.out bb2; clear hn2 hI2 bb2)
      | (go_at_call 13; refine (CR.out _ B2.out).mono ?_; rintro e w3 ⟨rfl, bb3⟩; have B3 : Hid (Below w.heap.size w w3) := bel_tr B2.out bb3; clear bb3))
    go_ret
    exact ⟨rfl, B3.out⟩

theorem walk (a : Option Addr) (n c : Nat) (xs : LS) (now later : Int) (w : World) (h : LL w a n c xs) (h1 : (Lit.int .i64 now).wf = true) (h2 : (Lit.int .i64 later).wf = true) :
    Calls Try.prog 6 #[.slice a n c, .int .i64 now, .int .i64 later] w fun e w' => e = .returned (.bool true) ∧ Below w.heap.size w w' := core w h now later

set_option maxRecDepth 100000 in
theorem lifted (os : Os) (started : os.Started) (H : Type) (enc : TypeId × Value → H) :
    ReturnsInHanded {} Try.checked os 6 .any (Rows.leaseLateSpec.pre6 enc Try.prog Try.f6 Rows.leaseLateRow.domain false) (Rows.leaseLateSpec.post enc Try.prog Try.f6 false true false false) := by
  refine returnsInHanded_of_change (C := Try.checked) own started (by kernel_rfl) Try.func6
    (ChangeSpec.witness6 (enc := enc) (C := Try.checked) false ⟨#[], #[.slice none 0 0, .int .i64 0, .int .i64 0], []⟩ 8 (by kernel_rfl) (by kernel_rfl) (by kernel_rfl) (by kernel_rfl)) ?_
  intro W base args ds gs before hval0 hW hcnd _
  have hval : ∀ (j : Nat) t v, Try.f6.params[j]? = some t → args[j]? = some v → Value.okWide Try.prog W .any base t v := hval0
  have hW' := hW
  obtain ⟨p, q, hA0, hV, rfl, hfz, hnd⟩ := hW
  have hA : DataW.TrodAll enc Try.prog W 0 (fun _ => true) true Try.f6.params.toList args.toList ds p := hA0
  rw [Try.params6] at hA hval
  obtain ⟨v0, vs0, d0, ds0, p0, q0, hargs, rfl, rfl, h0, r0⟩ := trodAll_cons hA
  obtain ⟨v1, vs1, d1, ds1, p1, q1, rfl, rfl, rfl, h1, r1⟩ := trodAll_cons r0
  obtain ⟨v2, vs2, d2, ds2, p2, q2, rfl, rfl, rfl, h2, r2⟩ := trodAll_cons r1
  obtain ⟨rfl, rfl, rfl⟩ := trodAll_nil r2
  obtain rfl : args = #[v0, v1, v2] := by cases args; simp_all
  obtain ⟨rfl, rfl⟩ := trodVars_none hV
  obtain ⟨a0, len0, cap0, rfl⟩ := okWide_slice Try.underlying22 (hval 0 22 v0 rfl rfl)
  have k0 := h0
  have lt0 : ∀ x ∈ p0, x.block < W.heap.size := by obtain ⟨m, hm⟩ := k0; exact DataW.trod_lt m _ _ _ hm
  obtain ⟨ss0, w0, n0⟩ := Lea.open_leases h0
  obtain ⟨a1, rfl, rfl, rfl, w1⟩ := open_int Try.underlying3 (hval 1 3 v1 rfl rfl) h1
  obtain ⟨a2, rfl, rfl, rfl, w2⟩ := open_int Try.underlying3 (hval 2 3 v2 rfl rfl) h2
  clear hA0 hval0
  refine (walk a0 len0 cap0 ss0 a1 a2 W w0 w1 w2).mono fun e W' ⟨he, bel⟩ => ?_
  subst he
  exact ⟨_, rfl, _, _, _, [], _, [], hW', trodAll_mk1 (shut_bool Try.underlying4 _), (trodAll_cons_mk (Below.trod laidOut (by kernel_rfl) (of_decide_eq_true (by kernel_rfl)) k0 bel lt0) (trodAll_cons_mk (shut_int Try.underlying3 w1) (trodAll_cons_mk (shut_int Try.underlying3 w2) trodAll_mk0))), rfl, bel.frame _, fun h => by cases h⟩

theorem over : Rows.leaseLateRow.holds Try.pinned (OpenSpec.ofChange Rows.leaseLateSpec) :=
  OpenClaim.holds_of_wide 6 Try.f6 rfl rfl rfl rfl rfl rfl rfl ⟨rfl, rfl, rfl, rfl, rfl⟩ rfl rfl rfl rfl rfl (by kernel_rfl) Try.func6 (by kernel_rfl)
    (of_decide_eq_true (by kernel_rfl)) (by unfold Func.isWrapper; first | (rw [if_pos (by decide +kernel)]; kernel_rfl) | (rw [if_neg (by decide +kernel)]; exact ⟨rfl, rfl⟩))
    (fun os started H enc _ => lifted os started H enc)
end Go.Proofs.Ytflccniidaogiaa.leaseLate

namespace Go.Proofs.Ytflccniidaogiaa
/-- The statement. -/
theorem leaseLate_holds : Rows.LeaseLateSaid := leaseLate.over
#print axioms leaseLate_holds
end Go.Proofs.Ytflccniidaogiaa
