/- LeaseChanges: for every list of leases (as long as the machine's memory reaches), every client, every time: the statement's function returns true; nothing that was there is changed. -/
import Derived.Test.YtflccniidaogiaaLeaseL
import Derived.Test.YtflccniidaogiaaLeaseR3
import Derived.Test.YtflccniidaogiaaLeaseOpen
namespace Go.Proofs.Ytflccniidaogiaa.leaseChanges
open Go.ChangeShapes Go.WideShapes Go.ChangeAt Go.RowKit Go.Proofs.Ytflccniidaogiaa Go.Proofs.Ytflccniidaogiaa.Lea
set_option linter.unusedVariables false

theorem own : ownKnob Try.prog.godebug = none := by kernel_rfl

/-- Leases whose clients can be written. -/
structure Live (base : Nat) (w : World) (a : Option Addr) (m : Nat) : Prop where
  row : ∀ i, i < m → ∃ g, a = some ⟨g, 0, none⟩ ∧ base ≤ g ∧ (∃ v, w.cell? ⟨g, i * 2, none⟩ = some v) ∧ w.frozen? ⟨g, i * 2, none⟩ = false

theorem set_some {w : World} {a b : Addr} {v u : Value} (h : w.cell? a = some u) : ∃ x, (w.setCell b v).cell? a = some x := by
  by_cases e : a = b
  · subst e
    exact ⟨v, World.cell?_setCell_same _ _ _ h⟩
  · exact ⟨u, (World.cell?_setCell_other _ _ _ _ (fun e2 => e e2.symm)).trans h⟩

theorem Live.set {base : Nat} {w : World} {a : Option Addr} {m : Nat} (h : Live base w a m) (b : Addr) (v : Value) : Live base (w.setCell b v) a m := by
  refine ⟨fun i hi => ?_⟩
  obtain ⟨g, ha, hb, ⟨u, h1⟩, h2⟩ := h.row i hi
  exact ⟨g, ha, hb, set_some h1, by rw [World.frozen?_setCell]; exact h2⟩

theorem Live.of {base : Nat} {w : World} {a : Option Addr} {n c : Nat} {xs : LS} {g : Option Nat} (h : LO base w a n c xs g) : Live base w a n := by
  have hl := h.len
  refine ⟨fun i hi => ?_⟩
  obtain ⟨b, rfl, rfl, e3⟩ := h.cel.elem wideL (i := i) (by omega) hl
  have hc := h.cel.cap2.1
  exact ⟨b, rfl, h.cel.lt.2, ⟨_, e3 0 _ rfl⟩, (h.cel.live (i * 2) (by omega)).2⟩

theorem bel_set {base : Nat} {w w2 : World} (h : Below base w w2) (h0 : base ≤ w.heap.size) (b j : Nat) (v : Value) (hb : base ≤ b) : Below base w (w2.setCell ⟨b, j, none⟩ v) :=
  h.trans ((Stay.setCell (O := fun k => k = b) w2 ⟨b, j, none⟩ v rfl).below (Nat.le_trans h0 h.size) (fun k hk => by omega))

set_option maxRecDepth 100000 in
set_option maxHeartbeats 8000000 in
theorem core {a : Option Addr} {n c : Nat} {xs : LS} (w : World) (h : LL w a n c xs) (hz : n * 16 ≤ 140737488355328) (k now : Int) :
    Calls Try.prog 4 #[.slice a n c, .int .i64 k, .int .i64 now] w fun e w' => e = .returned (.bool true) ∧ Below w.heap.size w w' := by
  obtain ⟨ti, hi1, hi2, hi3, hi4⟩ := lsRow
  obtain ⟨ys, v, hy⟩ : ∃ ys v, renX xs k now = (ys, v) := ⟨_, _, rfl⟩
  obtain ⟨m, hm⟩ : ∃ m, ys.length = m := ⟨_, rfl⟩
  obtain ⟨ds, u, hd⟩ : ∃ ds u, dropX xs k = (ds, u) := ⟨_, _, rfl⟩
  obtain ⟨d, hdl⟩ : ∃ d, ds.length = d := ⟨_, rfl⟩
  have CN : Hid (∀ W a2 c2, LL W a2 n c2 xs → Calls Try.prog 15 #[.slice a2 n c2, .int .i64 k, .int .i64 now] W fun e w' => LsR W.heap.size ys m (errV v) e w' ∧ Below W.heap.size W w') := fun W a2 c2 hL => renew_val hL k now ys v m hy hm
  have CM : Hid (∀ W, Below w.heap.size w W → Calls Try.prog 16 #[.slice a n c, .int .i64 k, .int .i64 now] W fun e w' => LsR W.heap.size ys m (.bool v) e w' ∧ Below W.heap.size W w') := fun W hb => refRenew_val (h.below hb) k now ys v m hy hm
  have CD : Hid (∀ W a2 c2, LL W a2 n c2 xs → Calls Try.prog 18 #[.slice a2 n c2, .int .i64 k] W fun e w' => LsR W.heap.size ds d (errV u) e w' ∧ Below W.heap.size W w') := fun W a2 c2 hL => drop_val hL k ds u d hd hdl
  have CE : Hid (∀ W, Below w.heap.size w W → Calls Try.prog 19 #[.slice a n c, .int .i64 k] W fun e w' => LsR W.heap.size ds d (.bool u) e w' ∧ Below W.heap.size W w') := fun W hb => refDrop_val (h.below hb) k ds u d hd hdl
  have HL : Hid (LL w a n c xs) := h
  have HNL : Hid (xs.length = n) := h.len
  have hnm : n ≤ maxLen := Nat.le_trans h.room h.lid
  unfold maxLen at hnm
  unfold errV at CN CD
  have OWN : Hid (∀ w1 a2 c2 w2 g2, Cel (Grow (fun k => w1.heap.size ≤ k) w1 w2) w2 2 (.slice a2 (0 + n) c2) (0 + n) ([] ++ rowC lsC xs) g2 → LL w2 a2 n c2 xs) := fun w1 a2 c2 w2 g2 hC => by
    have hC2 : Cel (fun k => w1.heap.size ≤ k) w2 2 (.slice a2 (0 + n) c2) (0 + n) ([] ++ rowC lsC xs) g2 := hC.stay (Nat.le_refl _) (fun _ _ => rfl) (fun k hk => hk.elim id (fun e => e.1))
    rw [Nat.zero_add, List.nil_append] at hC2
    exact (LO.mk hC2 HNL.out).ll
  clear h hy hm hd hdl
  cases v <;> cases u
  all_goals
    simp only [Bool.false_eq_true, if_false, if_true] at CN CD
    go_enter Try.func4, Try.ntmps4
    go_wp2_with (first
      | (go_at_call 7; refine (examples_val _).mono ?_; rintro e w1 ⟨rfl, b1⟩; have B1 : Hid (Below w.heap.size w w1) := b1; clear b1)
      | (at_builtin; refine wpList_append_cel _ rfl _ _ 22 22 rfl 41 ti _ 2 16 Try.underlying22 hi1 hi2 hi3 hi4 rfl (O := fun k => w1.heap.size ≤ k) _ 0 [] none rfl (.nil rfl rfl rfl) _ n (rowC lsC xs) rfl ((HL.out.below B1.out).src Try.underlying22) (by unfold maxLen; omega) (by omega) ?_; intro a2 c2 w2 g2 hC2 hS2 hg2; have O2 : Hid (LL w2 a2 n c2 xs) := OWN.out w1 a2 c2 w2 g2 hC2; have B2 : Hid (Below w.heap.size w w2) := bel_tr B1.out (below_none hS2); clear hC2 hS2 hg2)
      | (go_at_call 15; refine (CN.out _ _ _ O2.out).mono ?_; rintro e w3 ⟨⟨a3, c3, g3, rfl, hO⟩, bb⟩; have A3 : Hid (LO w2.heap.size w3 a3 m c3 ys g3) := hO; have K3 : Hid (Below w2.heap.size w2 w3) := bb; have B3 : Hid (Below w.heap.size w w3) := bel_tr B2.out bb; clear hO bb)
      | (go_at_call 16; refine (CM.out _ B3.out).mono ?_; rintro e w4 ⟨⟨a4, c4, g4, rfl, hO⟩, bb⟩; have A4 : Hid (LO w2.heap.size w4 a3 m c3 ys g3) := A3.out.below bb; have L4 : Hid (LL w4 a4 m c4 ys) := hO.ll; have K4 : Hid (Below w2.heap.size w2 w4) := bel_tr K3.out bb; clear hO bb)
      | (go_at_call 17; refine (leases_val A4.out.ll L4.out).mono ?_; rintro e w5 ⟨rfl, bb⟩; have A5 : Hid (Live w2.heap.size w5 a3 m) := Live.of (A4.out.below bb); have K5 : Hid (Below w2.heap.size w2 w5) := bel_tr K4.out bb; have hm63 : m ≤ 9223372036854775807 := by { have h1 := A4.out.ll.room; have h2 := A4.out.ll.lid; unfold maxLen at h2; omega }; clear bb))
    go_loopw [14] (fun v14 wr => ∃ i : Nat, i ≤ m ∧ v14 = .int .i64 i ∧ Live w2.heap.size wr a3 m ∧ Below w2.heap.size w2 wr) (fun v14 _ => m - (intOf v14).toNat)
    case atStart => exact ⟨0, by omega, rfl, A5.out, K5.out⟩
    case round =>
      obtain ⟨i, hi, rfl, hV, hb⟩ := hrel
      rename World => wo
      have HV : Hid (Live w2.heap.size wo a3 m) := hV
      have HB : Hid (Below w2.heap.size w2 wo) := hb
      by_cases hlt : i < m
      · obtain ⟨g, rfl, hbg, ⟨v0, e0⟩, f0⟩ := hV.row i hlt
        have HBG : Hid (w2.heap.size ≤ g) := hbg
        clear hV hb hbg
        go_wp2
        go_roundw
        case rel => exact ⟨i + 1, by omega, by go_num, HV.out.set _ _, bel_set HB.out (Nat.le_refl _) _ _ _ HBG.out⟩
        case measure => simp [intOf] <;> omega
      · obtain rfl : i = m := by omega
        have hgd : decide ((i : Int) < (i : Int)) = false := decide_eq_false (by omega)
        have O6 : Hid (LL wo a2 n c2 xs) := O2.out.below HB.out
        have B6 : Hid (Below w.heap.size w wo) := bel_tr B2.out HB.out
        clear hV hb hlt
        go_wp2_with (first
          | (go_at_call 18; refine (CD.out _ _ _ O6.out).mono ?_; rintro e w7 ⟨⟨a7, c7, g7, rfl, hO⟩, bb⟩; have A7 : Hid (LO wo.heap.size w7 a7 d c7 ds g7) := hO; have K7 : Hid (Below wo.heap.size wo w7) := bb; have B7 : Hid (Below w.heap.size w w7) := bel_tr B6.out bb; clear hO bb)
          | (go_at_call 19; refine (CE.out _ B7.out).mono ?_; rintro e w8 ⟨⟨a8, c8, g8, rfl, hO⟩, bb⟩; have A8 : Hid (LO wo.heap.size w8 a7 d c7 ds g7) := A7.out.below bb; have L8 : Hid (LL w8 a8 d c8 ds) := hO.ll; have K8 : Hid (Below wo.heap.size wo w8) := bel_tr K7.out bb; clear hO bb)
          | (go_at_call 17; refine (leases_val A8.out.ll L8.out).mono ?_; rintro e w9 ⟨rfl, bb⟩; have A9 : Hid (Live wo.heap.size w9 a7 d) := Live.of (A8.out.below bb); have K9 : Hid (Below wo.heap.size wo w9) := bel_tr K8.out bb; have hd63 : d ≤ 9223372036854775807 := by { have h1 := A8.out.ll.room; have h2 := A8.out.ll.lid; unfold maxLen at h2; omega }; clear bb))
        go_loopw [20] (fun v20 wr => ∃ j : Nat, j ≤ d ∧ v20 = .int .i64 j ∧ Live wo.heap.size wr a7 d ∧ Below wo.heap.size wo wr) (fun v20 _ => d - (intOf v20).toNat)
        case atStart => exact ⟨0, by omega, rfl, A9.out, K9.out⟩
        case round =>
          obtain ⟨j, hj, rfl, hV, hb⟩ := hrel
          have HV2 : Hid (Live wo.heap.size wr a7 d) := hV
          have HB2 : Hid (Below wo.heap.size wo wr) := hb
          by_cases hlt : j < d
          · obtain ⟨g, rfl, hbg, ⟨v0, e0⟩, f0⟩ := hV.row j hlt
            have HBG : Hid (wo.heap.size ≤ g) := hbg
            clear hV hb hbg
            go_wp2
            go_roundw
            case rel => exact ⟨j + 1, by omega, by go_num, HV2.out.set _ _, bel_set HB2.out (Nat.le_refl _) _ _ _ HBG.out⟩
            case measure => simp [intOf] <;> omega
          · obtain rfl : j = d := by omega
            have hgd2 : decide ((j : Int) < (j : Int)) = false := decide_eq_false (by omega)
            have O10 : Hid (LL wr a2 n c2 xs) := O6.out.below HB2.out
            have B10 : Hid (Below w.heap.size w wr) := bel_tr B6.out HB2.out
            clear hV hb hlt
            go_wp2_with (go_at_call 17; refine (leases_val O10.out (HL.out.below B10.out)).mono ?_; rintro e w11 ⟨rfl, bb⟩; have B11 : Hid (Below w.heap.size w w11) := bel_tr B10.out bb; clear bb)
            go_ret
            exact ⟨rfl, B11.out⟩

theorem walk (a : Option Addr) (n c : Nat) (xs : LS) (k now : Int) (w : World) (h : LL w a n c xs) (h1 : (Lit.int .i64 k).wf = true) (h2 : (Lit.int .i64 now).wf = true) (z : n * 16 ≤ reachBytes) :
    Calls Try.prog 4 #[.slice a n c, .int .i64 k, .int .i64 now] w fun e w' => e = .returned (.bool true) ∧ Below w.heap.size w w' :=
  core w h (Nat.le_trans z (by decide)) k now

set_option maxRecDepth 100000 in
theorem lifted (os : Os) (started : os.Started) (H : Type) (enc : TypeId × Value → H) :
    ReturnsInHanded {} Try.checked os 4 .any (Rows.leaseChangesSpec.pre6 enc Try.prog Try.f4 Rows.leaseChangesRow.domain false) (Rows.leaseChangesSpec.post enc Try.prog Try.f4 false true false false) := by
  refine returnsInHanded_of_change_sized (C := Try.checked) own started (by kernel_rfl) Try.func4
    (ChangeSpec.witness6 (enc := enc) (C := Try.checked) false ⟨#[], #[.slice none 0 0, .int .i64 0, .int .i64 0], []⟩ 8 (by kernel_rfl) (by kernel_rfl) (by kernel_rfl) (by kernel_rfl)) ?_
  intro W base args ds gs before hval0 hW hcnd hsz0 _
  have hval : ∀ (j : Nat) t v, Try.f4.params[j]? = some t → args[j]? = some v → Value.okWide Try.prog W .any base t v := hval0
  have hW' := hW
  obtain ⟨p, q, hA0, hV, rfl, hfz, hnd⟩ := hW
  have hA : DataW.TrodAll enc Try.prog W 0 (fun _ => true) true Try.f4.params.toList args.toList ds p := hA0
  have hsz : (DataW.weightsEach Try.prog (Try.f4.params.toList ++ Rows.leaseChangesSpec.plain.varTypes Try.prog) (ds ++ gs)).all (· ≤ reachBytes) = true := hsz0
  rw [Try.params4] at hA hval hsz
  obtain ⟨v0, vs0, d0, ds0, p0, q0, hargs, rfl, rfl, h0, r0⟩ := trodAll_cons hA
  obtain ⟨v1, vs1, d1, ds1, p1, q1, rfl, rfl, rfl, h1, r1⟩ := trodAll_cons r0
  obtain ⟨v2, vs2, d2, ds2, p2, q2, rfl, rfl, rfl, h2, r2⟩ := trodAll_cons r1
  obtain ⟨rfl, rfl, rfl⟩ := trodAll_nil r2
  obtain rfl : args = #[v0, v1, v2] := by cases args; simp_all
  obtain ⟨rfl, rfl⟩ := trodVars_none hV
  obtain ⟨a0, len0, cap0, rfl⟩ := okWide_slice Try.underlying22 (hval 0 22 v0 rfl rfl)
  have k0 := h0
  have lt0 : ∀ x ∈ p0, x.block < W.heap.size := by obtain ⟨m, hm⟩ := k0; exact DataW.trod_lt m _ _ _ hm
  obtain ⟨ss0, w0, n0⟩ := Lea.open_leases h0
  obtain ⟨a1, rfl, rfl, rfl, w1⟩ := open_int Try.underlying3 (hval 1 3 v1 rfl rfl) h1
  obtain ⟨a2, rfl, rfl, rfl, w2⟩ := open_int Try.underlying3 (hval 2 3 v2 rfl rfl) h2
  have z0 := n0 (fun x hx => by simpa using List.all_eq_true.1 hsz x (DataW.weights_mem_each (j := 0) (t := 22) rfl rfl x hx))
  clear hA0 hval0
  refine (walk a0 len0 cap0 ss0 a1 a2 W w0 w1 w2 z0).mono fun e W' ⟨he, bel⟩ => ?_
  subst he
  exact ⟨_, rfl, _, _, _, [], _, [], hW', trodAll_mk1 (shut_bool Try.underlying4 _), (trodAll_cons_mk (Below.trod laidOut (by kernel_rfl) (of_decide_eq_true (by kernel_rfl)) k0 bel lt0) (trodAll_cons_mk (shut_int Try.underlying3 w1) (trodAll_cons_mk (shut_int Try.underlying3 w2) trodAll_mk0))), rfl, bel.frame _, fun h => by cases h⟩

theorem over : Rows.leaseChangesRow.holds Try.pinned (OpenSpec.ofChange Rows.leaseChangesSpec) :=
  OpenClaim.holds_of_wide 4 Try.f4 rfl rfl rfl rfl rfl rfl rfl ⟨rfl, rfl, rfl, rfl, rfl⟩ rfl rfl rfl rfl rfl (by kernel_rfl) Try.func4 (by kernel_rfl)
    (of_decide_eq_true (by kernel_rfl)) (by unfold Func.isWrapper; first | (rw [if_pos (by decide +kernel)]; kernel_rfl) | (rw [if_neg (by decide +kernel)]; exact ⟨rfl, rfl⟩))
    (fun os started H enc _ => lifted os started H enc)
end Go.Proofs.Ytflccniidaogiaa.leaseChanges

namespace Go.Proofs.Ytflccniidaogiaa
/-- The statement. -/
theorem leaseChanges_holds : Rows.LeaseChangesSaid := leaseChanges.over
#print axioms leaseChanges_holds
end Go.Proofs.Ytflccniidaogiaa
