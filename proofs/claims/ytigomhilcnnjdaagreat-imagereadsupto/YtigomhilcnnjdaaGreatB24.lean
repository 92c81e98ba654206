/- Part 24 of the proof: LeaseF1, LeaseF2, LeaseF3, LeaseR1, LeaseR2. -/
import Derived.Test.YtigomhilcnnjdaaGreatB07
import Derived.BigQuiet
import Derived.BigRegion
import Derived.Deep.QuietTactic
import Derived.Deep.RegionLaw
import Derived.Deep.RegionWith
import Derived.Lib.MinMax
import Derived.Lib.QuietBelow
import Derived.OwnWalk
import Derived.Test.YtigomhilcnnjdaaGreatRows
import Derived.WalkKit
import Derived.WalkLawsBesides
import Derived.WalkSpells

/- The contracts of lease.isClient, cmp.isNaN, cmp.Compare, lease.byClient, lease.Right. -/
namespace Go.Proofs.YtigomhilcnnjdaaGreat.Lea
open Go.RowKit Go.Proofs.YtigomhilcnnjdaaGreat

set_option maxRecDepth 100000 in
theorem isClient_val (c : Int) (v : Bool) (w : World) (hv : (decide (0 ≤ c) && decide (c < 4)) = v) :
    Calls Tryz.prog 54 #[.int .i64 c] w fun e w' => e = .returned (.bool v) ∧ w' = w := by
  cases h1 : decide (0 ≤ c) <;> cases h2 : decide (c < 4) <;> rw [h1, h2] at hv <;> subst hv
  all_goals
    simp only [decide_eq_true_eq, decide_eq_false_iff_not] at h1 h2
    go_enter Tryz.func54, Tryz.ntmps54
    go_wp2
    go_ret
    exact ⟨rfl, rfl⟩

set_option maxRecDepth 100000 in
theorem isNaN_val (c : Int) (w : World) :
    Calls Tryz.prog 97 #[.int .i64 c] w fun e w' => e = .returned (.bool false) ∧ w' = w := by
  go_enter Tryz.func97, Tryz.ntmps97
  go_wp2
  go_ret
  exact ⟨by simp, rfl⟩

/-- How two numbers stand. -/
def cmpI (x y : Int) : Int := if x < y then -1 else if y < x then 1 else 0
theorem cmpI_neg {x y : Int} : cmpI x y < 0 ↔ x < y := by unfold cmpI; (repeat' split) <;> omega
theorem cmpI_zero {x y : Int} : cmpI x y = 0 ↔ x = y := by unfold cmpI; (repeat' split) <;> omega

set_option maxRecDepth 100000 in
theorem compare_val (x y r : Int) (w : World) (hr : cmpI x y = r) :
    Calls Tryz.prog 82 #[.int .i64 x, .int .i64 y] w fun e w' => e = .returned (.int .i64 r) ∧ w' = w := by
  unfold cmpI at hr
  by_cases h1 : x < y
  · rw [if_pos h1] at hr
    subst hr
    go_enter Tryz.func82, Tryz.ntmps82
    go_wp2_with (refine (isNaN_val _ _).mono ?_; rintro e w1 ⟨rfl, rfl⟩)
    go_ret
    exact ⟨rfl, rfl⟩
  · rw [if_neg h1] at hr
    by_cases h2 : y < x
    · rw [if_pos h2] at hr
      subst hr
      go_enter Tryz.func82, Tryz.ntmps82
      go_wp2_with (refine (isNaN_val _ _).mono ?_; rintro e w1 ⟨rfl, rfl⟩)
      go_ret
      exact ⟨rfl, rfl⟩
    · rw [if_neg h2] at hr
      subst hr
      go_enter Tryz.func82, Tryz.ntmps82
      go_wp2_with (refine (isNaN_val _ _).mono ?_; rintro e w1 ⟨rfl, rfl⟩)
      go_ret
      exact ⟨rfl, rfl⟩

set_option maxRecDepth 100000 in
theorem byClient_val (x y : Ls) (r : Int) (w : World) (hr : cmpI x.c y.c = r) :
    Calls Tryz.prog 55 #[lsV x, lsV y] w fun e w' => e = .returned (.int .i64 r) ∧ Below w.heap.size w w' := by
  obtain ⟨c, u⟩ := x
  obtain ⟨c2, u2⟩ := y
  have HR : Hid (cmpI c c2 = r) := hr
  clear hr
  unfold lsV
  go_enter Tryz.func55, Tryz.ntmps55
  go_wp2_with (refine (compare_val c c2 r _ HR.out).mono ?_; rintro e w1 ⟨rfl, rfl⟩)
  go_ret
  exact ⟨rfl, bel_tr (bel_al _ _) (bel_al _ _)⟩

end Go.Proofs.YtigomhilcnnjdaaGreat.Lea

/- The contract of lease.Right. -/
namespace Go.Proofs.YtigomhilcnnjdaaGreat.Lea
open Go.RowKit Go.Proofs.YtigomhilcnnjdaaGreat

theorem box0 (wr : World) (x y : Value) (t : TypeId) (dd : Nat) (os : Array Obj) : (Sort.grow (redrawn (wr.alloc (.cells #[x, y] t)) dd) os).cell? ⟨wr.heap.size, 0, none⟩ = some x := cell_regrown (World.cell?_alloc_new wr #[x, y] t 0) dd os
theorem box1 (wr : World) (x y : Value) (t : TypeId) (dd : Nat) (os : Array Obj) : (Sort.grow (redrawn (wr.alloc (.cells #[x, y] t)) dd) os).cell? ⟨wr.heap.size, 1, none⟩ = some y := cell_regrown (World.cell?_alloc_new wr #[x, y] t 1) dd os

set_option maxRecDepth 100000 in
set_option maxHeartbeats 2000000 in
theorem right_val {a : Option Addr} {n c : Nat} {xs : LS} {w : World} (h : LL w a n c xs) (v : Bool) (hv : v = true ↔ Rt xs) :
    Calls Tryz.prog 33 #[.slice a n c] w fun e w' => e = .returned (.bool v) ∧ Below w.heap.size w w' := by
  have HC : Hid (LL w a n c xs) := h
  have HN : Hid (xs.length = n) := h.len
  have HV : Hid (v = true ↔ Rt xs) := hv
  have hlid := h.lid
  have hroom := h.room
  unfold maxLen at hlid
  have hn : n ≤ 9223372036854775807 := by omega
  clear h hv hlid hroom
  go_enter Tryz.func33, Tryz.ntmps33
  go_wp2
  go_loopw [3, 7] (fun _ v7 wr => ∃ i : Nat, i ≤ n ∧ v7 = .int .i64 i ∧ Below w.heap.size w wr ∧ Rt (xs.take i)) (fun _ v7 _ => n - (intOf v7).toNat)
  case atStart => exact ⟨0, by omega, rfl, Below.refl _ _, Rt.nil⟩
  case round =>
    obtain ⟨i, hi, rfl, hb, hR⟩ := hrel
    have HB : Hid (Below w.heap.size w wr) := hb
    have HR : Hid (Rt (xs.take i)) := hR
    by_cases hlt : i < n
    · have hix : i < xs.length := by rw [HN.out]; exact hlt
      obtain ⟨b, off, rfl, hat⟩ := (HC.out.below hb).at (by omega)
      obtain ⟨e0, e1⟩ := hat i hix
      have HNX : Hid ((0 ≤ xs[i].c ∧ xs[i].c < 4 ∧ 0 ≤ xs[i].u ∧ xs[i].u ≤ 9007199254740991) → (∀ j (hj : j < xs.length), j + 1 = i → xs[j].c < xs[i].c) → Rt (xs.take (i + 1))) := fun h1 h2 => rt_next hix hR h1 h2
      have HNO : Hid (¬ (0 ≤ xs[i].c ∧ xs[i].c < 4 ∧ 0 ≤ xs[i].u ∧ xs[i].u ≤ 9007199254740991) → v = false) := fun hn => by
        rw [Bool.eq_false_iff]; intro e; exact rt_not hix hn (HV.out.1 e)
      have HNP : Hid (∀ j (hj : j < xs.length), j + 1 = i → ¬ xs[j].c < xs[i].c → v = false) := fun j hj e hn => by
        subst e
        rw [Bool.eq_false_iff]; intro e; exact rt_not2 hix hn (HV.out.1 e)
      by_cases hok : 0 ≤ xs[i].c ∧ xs[i].c < 4 ∧ 0 ≤ xs[i].u ∧ xs[i].u ≤ 9007199254740991
      · have HOK : Hid _ := hok
        obtain ⟨k1, k2, k3, k4⟩ := hok
        have CI : Hid (∀ W, Calls Tryz.prog 54 #[.int .i64 xs[i].c] W fun e w' => e = .returned (.bool true) ∧ w' = W) := fun W => isClient_val _ _ W (by simp [k1, k2])
        by_cases h0 : i = 0
        · have HX : Hid (Rt (xs.take (i + 1))) := HNX.out HOK.out (fun j hj e => by omega)
          clear hat hb hR HNX HNO HNP k1 k2 HR HOK
          generalize xs[i].c = cc at *
          generalize xs[i].u = uu at *
          have h0i : decide (0 < i) = false := decide_eq_false (by omega)
          clear h0
          go_wp2_with (go_at_call 54; refine (CI.out _).mono ?_; rintro e w1 ⟨rfl, rfl⟩)
          refine wp_region_quiet_below (by kernel_rfl) (by kernel_rfl) ?_
          repeat (first | go_big_quiet_step (fail) | quiet_step (fail))
          refine wpQuiet_nil ?_
          intro _ hw'
          obtain ⟨⟨dq, osq⟩, hw''⟩ := hw'
          subst hw''
          go_wp2
          go_roundw
          case rel => exact ⟨i + 1, by omega, by go_num, bel_tr HB.out (bel_tr (bel_al _ _) (below_regrown _ dq osq)), HX.out⟩
          case measure => simp [intOf]; omega
        · obtain ⟨k, hk⟩ : ∃ k, i = k + 1 := ⟨i - 1, by omega⟩
          have hkx : k < xs.length := by omega
          obtain ⟨f0, f1⟩ := hat k hkx
          have HXY : Hid (xs[k].c < xs[i].c → Rt (xs.take (i + 1))) := fun hl => HNX.out HOK.out (fun j hj e => by
            obtain rfl : j = k := by omega
            exact hl)
          have HXN : Hid (¬ xs[k].c < xs[i].c → v = false) := HNP.out k hkx hk.symm
          clear hat hb hR HNX HNO HNP k1 k2 HR HOK
          have CB : Hid (∀ W r, cmpI xs[k].c xs[i].c = r → Calls Tryz.prog 55 #[.agg #[.int .i64 xs[k].c, .int .i64 xs[k].u], .agg #[.int .i64 xs[i].c, .int .i64 xs[i].u]] W fun e w' => e = .returned (.int .i64 r) ∧ Below W.heap.size W w') := fun W r hr => byClient_val xs[k] xs[i] r W hr
          generalize xs[i].c = cc at *
          generalize xs[i].u = uu at *
          generalize xs[k].c = ck at *
          generalize xs[k].u = uk at *
          have h0i : decide (0 < i) = true := decide_eq_true (by omega)
          have hik : (i : Int) - 1 = (k : Int) := by omega
          have hkn : k < n := by omega
          have HIK : Hid (i = k + 1) := hk
          have q0 := cell_al f0
          have q1 := cell_al f1
          have r0 : ∀ o dd os, (Sort.grow (redrawn (wr.alloc o) dd) os).cell? ⟨b, off + k * 2, none⟩ = some (.int .i64 ck) := fun o dd os => cell_regrown (q0 o) dd os
          have r1 : ∀ o dd os, (Sort.grow (redrawn (wr.alloc o) dd) os).cell? ⟨b, off + k * 2 + 1, none⟩ = some (.int .i64 uk) := fun o dd os => cell_regrown (q1 o) dd os
          have s0 := box0 wr (.int .i64 cc) (.int .i64 uu) 48
          have s1 := box1 wr (.int .i64 cc) (.int .i64 uu) 48
          clear h0 hk f0 f1 q0 q1 hkx hix
          obtain ⟨r, hr⟩ : ∃ r, cmpI ck cc = r := ⟨_, rfl⟩
          have HR : Hid (cmpI ck cc = r) := hr
          by_cases hlt2 : ck < cc
          · have hrn : r < 0 := by rw [← hr]; exact cmpI_neg.2 hlt2
            have HX : Hid _ := HXY.out hlt2
            clear hr HXY HXN hlt2
            go_wp2_with (go_at_call 54; refine (CI.out _).mono ?_; rintro e w1 ⟨rfl, rfl⟩)
            refine wp_region_quiet_below (by kernel_rfl) (by kernel_rfl) ?_
            repeat (first | go_big_quiet_step (first | exact Calls.regrown_of (CB.out _ _ HR.out) | fail) | quiet_step (first | exact Calls.regrown_of (CB.out _ _ HR.out) | fail))
            refine wpQuiet_nil ?_
            intro _ hw'
            obtain ⟨⟨dq, osq⟩, hw''⟩ := hw'
            subst hw''
            go_wp2
            go_roundw
            case rel => exact ⟨i + 1, by omega, by go_num, bel_tr HB.out (bel_tr (bel_al _ _) (below_regrown _ dq osq)), HX.out⟩
            case measure => simp [intOf]; omega
          · have hrn : 0 ≤ r := by
              rw [← hr]
              have := mt cmpI_neg.1 hlt2
              omega
            obtain rfl := HXN.out hlt2
            clear hr HXY HXN hlt2
            go_wp2_with (go_at_call 54; refine (CI.out _).mono ?_; rintro e w1 ⟨rfl, rfl⟩)
            refine wp_region_quiet_below (by kernel_rfl) (by kernel_rfl) ?_
            repeat (first | go_big_quiet_step (first | exact Calls.regrown_of (CB.out _ _ HR.out) | fail) | quiet_step (first | exact Calls.regrown_of (CB.out _ _ HR.out) | fail))
            refine wpQuiet_nil ?_
            intro _ hw'
            obtain ⟨⟨dq, osq⟩, hw''⟩ := hw'
            subst hw''
            go_wp2
            go_ret
            exact ⟨rfl, bel_tr HB.out (bel_tr (bel_al _ _) (below_regrown _ dq osq))⟩
      · obtain rfl := HNO.out hok
        clear hat hb hR HNX HNO HNP HR
        cases hcl : (decide (0 ≤ xs[i].c) && decide (xs[i].c < 4)) with
        | false =>
          have CI : Hid (∀ W, Calls Tryz.prog 54 #[.int .i64 xs[i].c] W fun e w' => e = .returned (.bool false) ∧ w' = W) := fun W => isClient_val _ _ W hcl
          clear hok hcl
          generalize xs[i].c = cc at *
          generalize xs[i].u = uu at *
          go_wp2_with (go_at_call 54; refine (CI.out _).mono ?_; rintro e w1 ⟨rfl, rfl⟩)
          go_ret
          exact ⟨rfl, bel_tr HB.out (bel_al _ _)⟩
        | true =>
          have CI : Hid (∀ W, Calls Tryz.prog 54 #[.int .i64 xs[i].c] W fun e w' => e = .returned (.bool true) ∧ w' = W) := fun W => isClient_val _ _ W hcl
          simp only [Bool.and_eq_true, decide_eq_true_eq] at hcl
          obtain ⟨k1, k2⟩ := hcl
          have hou : xs[i].u < 0 ∨ 9007199254740991 < xs[i].u := by omega
          clear hok k1 k2
          generalize xs[i].c = cc at *
          generalize xs[i].u = uu at *
          have hou2 : (decide (uu < 0) || decide (9007199254740991 < uu)) = true := by simpa using hou
          clear hou
          go_wp2_with (go_at_call 54; refine (CI.out _).mono ?_; rintro e w1 ⟨rfl, rfl⟩)
          all_goals
            go_ret
            exact ⟨rfl, bel_tr HB.out (bel_al _ _)⟩
    · obtain rfl : i = n := by omega
      have hgd : decide ((i : Int) < (i : Int)) = false := decide_eq_false (by omega)
      have hv1 : v = true := HV.out.2 (by
        rwa [List.take_of_length_le (by rw [HN.out]; omega)] at hR)
      subst hv1
      clear hb hR hlt
      go_wp2
      go_ret
      exact ⟨rfl, HB.out⟩

end Go.Proofs.YtigomhilcnnjdaaGreat.Lea

/- The contracts of lease.Until, lease.Late, lease.Drop. -/
namespace Go.Proofs.YtigomhilcnnjdaaGreat.Lea
open Go.RowKit Go.Proofs.YtigomhilcnnjdaaGreat

set_option maxRecDepth 100000 in
set_option maxHeartbeats 2000000 in
theorem until_val {a : Option Addr} {n c : Nat} {xs : LS} {w : World} (h : LL w a n c xs) (k u : Int) (v : Bool) (hv : untilX xs k = (u, v)) :
    Calls Tryz.prog 56 #[.slice a n c, .int .i64 k] w fun e w' => e = .returned (.tuple #[.int .i64 u, .bool v]) ∧ Below w.heap.size w w' := by
  have HC : Hid (LL w a n c xs) := h
  have HN : Hid (xs.length = n) := h.len
  by_cases hr : Rt xs
  · have HR : Hid (true = true ↔ Rt xs) := ⟨fun _ => hr, fun _ => rfl⟩
    have hn4 : n ≤ 4 := by rw [← HN.out]; exact hr.few
    rw [untilX_yes hr] at hv
    have HV : Hid (findX xs k = (u, v)) := hv
    clear h hr hv
    go_enter Tryz.func56, Tryz.ntmps56
    go_wp2_with (go_at_call 33; refine (right_val HC.out true HR.out).mono ?_; rintro e w1 ⟨rfl, c1⟩)
    have C1 : Hid (Below w.heap.size w w1) := c1
    clear c1
    go_loopw [13] (fun v13 wr => ∃ i : Nat, i ≤ n ∧ v13 = .int .i64 i ∧ Below w.heap.size w wr ∧ ∀ j (hj : j < xs.length), j < i → xs[j].c ≠ k) (fun v13 _ => n - (intOf v13).toNat)
    case atStart => exact ⟨0, by omega, rfl, C1.out, fun j hj h0 => by omega⟩
    case round =>
      obtain ⟨i, hi, rfl, hb, hall⟩ := hrel
      have HB : Hid (Below w.heap.size w wr) := hb
      have HA : Hid (∀ j (hj : j < xs.length), j < i → xs[j].c ≠ k) := hall
      by_cases hlt : i < n
      · have hix : i < xs.length := by rw [HN.out]; exact hlt
        obtain ⟨b, off, rfl, hat⟩ := (HC.out.below hb).at (by omega)
        obtain ⟨e0, e1⟩ := hat i hix
        by_cases hx : xs[i].c = k
        · have hf := find_here hix hx hall
          rw [HV.out] at hf
          simp only [Prod.mk.injEq] at hf
          obtain ⟨hu, rfl⟩ := hf
          have HU : Hid (u = xs[i].u) := hu
          have hxb : (xs[i].c == k) = true := by simpa using hx
          clear hall hat hb hx HV hu
          generalize xs[i].c = cc at *
          generalize xs[i].u = uu at *
          go_wp2
          go_ret2
          exact ⟨by rw [HU.out]; rfl, bel_tr HB.out (bel_al _ _)⟩
        · have HX : Hid (∀ j (hj : j < xs.length), j < i + 1 → xs[j].c ≠ k) := fun j hj hji => by
            rcases Nat.lt_or_ge j i with h | h
            · exact hall j hj h
            · obtain rfl : j = i := by omega
              exact hx
          have hxb : (xs[i].c == k) = false := by simpa using hx
          clear hall hat hb hx
          generalize xs[i].c = cc at *
          generalize xs[i].u = uu at *
          go_wp2
          go_roundw
          case rel => exact ⟨i + 1, by omega, by go_num, bel_tr HB.out (bel_al _ _), HX.out⟩
          case measure => simp [intOf]; omega
      · obtain rfl : i = n := by omega
        have hgd : decide ((i : Int) < (i : Int)) = false := decide_eq_false (by omega)
        have hf : findX xs k = (0, false) := find_none (fun j hj => hall j hj (by rw [← HN.out]; exact hj))
        rw [HV.out] at hf
        simp only [Prod.mk.injEq] at hf
        obtain ⟨rfl, rfl⟩ := hf
        clear hb hall hlt
        go_wp2
        go_ret2
        exact ⟨rfl, HB.out⟩
  · have HR : Hid (false = true ↔ Rt xs) := ⟨fun e => (by cases e), fun e => absurd e hr⟩
    rw [untilX_no hr] at hv
    simp only [Prod.mk.injEq] at hv
    obtain ⟨rfl, rfl⟩ := hv
    clear h hr
    go_enter Tryz.func56, Tryz.ntmps56
    go_wp2_with (go_at_call 33; refine (right_val HC.out false HR.out).mono ?_; rintro e w1 ⟨rfl, c1⟩)
    go_ret2
    exact ⟨rfl, c1⟩

theorem intRow : ∃ i, Tryz.prog.info? 3 = some i ∧ i.zero = some (.int .i64 0) ∧ i.size = 1 ∧ i.bytes = 8 :=
  info_parts3 (show (Tryz.prog.info? 3).map (fun i => (i.zero, i.size, i.bytes)) = some (some (.int .i64 0), 1, 8) by kernel_rfl)
theorem lsRow : ∃ i, Tryz.prog.info? 48 = some i ∧ i.zero = some (.agg #[.int .i64 0, .int .i64 0]) ∧ i.size = 2 ∧ i.bytes = 16 :=
  info_parts3 (show (Tryz.prog.info? 48).map (fun i => (i.zero, i.size, i.bytes)) = some (some (.agg #[.int .i64 0, .int .i64 0]), 2, 16) by kernel_rfl)

theorem src_int (w : World) (z : Int) : Src Tryz.prog 1 75 (.slice (some ⟨w.heap.size, 0, none⟩) 1 1) 1 (rowC intC [z]) (w.alloc (.cells #[.int .i64 z] 3)) := by
  refine Src.ofSlice _ Tryz.underlying75 ⟨w.heap.size, 0, none⟩ 1 1 _ (by rw [rowC_len wideI]; simp) (fun j u hu => ?_) (rowC_oneCell wideI _)
  rw [Addr.add_lit, Nat.zero_add]
  have e := World.cell?_alloc_new w #[.int .i64 z] 3 j
  refine e.trans ?_
  rw [rowC_one] at hu
  show (List.toArray (intC z))[j]? = some u
  rw [List.getElem?_toArray]; exact hu
theorem src_int1 (w : World) (o : Obj) (z : Int) : Src Tryz.prog 1 75 (.slice (some ⟨w.heap.size + 1, 0, none⟩) 1 1) 1 (rowC intC [z]) ((w.alloc o).alloc (.cells #[.int .i64 z] 3)) := by
  have h := src_int (w.alloc o) z
  rw [show (w.alloc o).heap.size = w.heap.size + 1 by simp] at h
  exact h
theorem src_ls (w : World) (x : Ls) : Src Tryz.prog 2 24 (.slice (some ⟨w.heap.size, 0, none⟩) 1 1) 1 (rowC lsC [x]) (w.alloc (.cells #[.int .i64 x.c, .int .i64 x.u] 48)) := by
  refine Src.ofSlice _ Tryz.underlying24 ⟨w.heap.size, 0, none⟩ 1 1 _ (by rw [rowC_len wideL]; simp) (fun j u hu => ?_) (rowC_oneCell wideL _)
  rw [Addr.add_lit, Nat.zero_add]
  have e := World.cell?_alloc_new w #[.int .i64 x.c, .int .i64 x.u] 48 j
  refine e.trans ?_
  rw [rowC_one] at hu
  show (List.toArray (lsC x))[j]? = some u
  rw [List.getElem?_toArray]; exact hu
theorem src_ls1 (w : World) (o : Obj) (x : Ls) : Src Tryz.prog 2 24 (.slice (some ⟨w.heap.size + 1, 0, none⟩) 1 1) 1 (rowC lsC [x]) ((w.alloc o).alloc (.cells #[.int .i64 x.c, .int .i64 x.u] 48)) := by
  have h := src_ls (w.alloc o) x
  rw [show (w.alloc o).heap.size = w.heap.size + 1 by simp] at h
  exact h

theorem bel_al2 (w : World) (o p : Obj) : Below w.heap.size w ((w.alloc o).alloc p) := bel_tr (bel_al _ _) (bel_al _ _)

end Go.Proofs.YtigomhilcnnjdaaGreat.Lea

/- The contracts of tabulariumref09.Right, Until, Late, without, Drop. -/
namespace Go.Proofs.YtigomhilcnnjdaaGreat.Lea
open Go.RowKit Go.Proofs.YtigomhilcnnjdaaGreat

set_option maxRecDepth 100000 in
set_option maxHeartbeats 4000000 in
theorem refRight_val {a : Option Addr} {n c : Nat} {xs : LS} {w : World} (h : LL w a n c xs) (v : Bool) (hv : v = true ↔ Rt xs) :
    Calls Tryz.prog 61 #[.slice a n c] w fun e w' => e = .returned (.bool v) ∧ Below w.heap.size w w' := by
  have HC : Hid (LL w a n c xs) := h
  have HN : Hid (xs.length = n) := h.len
  have HV : Hid (v = true ↔ Rt xs) := hv
  have hlid := h.lid
  have hroom := h.room
  unfold maxLen at hlid
  have hn : n ≤ 9223372036854775807 := by omega
  clear h hv hlid hroom
  go_enter Tryz.func61, Tryz.ntmps61
  go_wp2
  go_loopw [3] (fun v3 wr => ∃ i : Nat, i ≤ n ∧ v3 = .int .i64 i ∧ Below w.heap.size w wr ∧ Rt (xs.take i)) (fun v3 _ => n - (intOf v3).toNat)
  case atStart => exact ⟨0, by omega, rfl, Below.refl _ _, Rt.nil⟩
  case round =>
    obtain ⟨i, hi, rfl, hb, hR⟩ := hrel
    have HB : Hid (Below w.heap.size w wr) := hb
    by_cases hlt : i < n
    · have hix : i < xs.length := by rw [HN.out]; exact hlt
      obtain ⟨b, off, rfl, hat⟩ := (HC.out.below hb).at (by omega)
      obtain ⟨e0, e1⟩ := hat i hix
      have r0 : ∀ m, (wr.drewN m).cell? ⟨b, off + i * 2, none⟩ = some (.int .i64 xs[i].c) := fun _ => e0
      have r1 : ∀ m, (wr.drewN m).cell? ⟨b, off + i * 2 + 1, none⟩ = some (.int .i64 xs[i].u) := fun _ => e1
      by_cases hbad : Rt (xs.take (i + 1))
      · have hok := hbad.ok xs[i] (by rw [List.take_succ_eq_append_getElem hix]; exact List.mem_append_right _ (List.mem_singleton.2 rfl))
        have k1 : decide (xs[i].c < 0) = false := decide_eq_false (by omega)
        have k2 : decide (4 ≤ xs[i].c) = false := decide_eq_false (by omega)
        have k3 : decide (xs[i].u < 0) = false := decide_eq_false (by omega)
        have k4 : decide (9007199254740991 < xs[i].u) = false := decide_eq_false (by omega)
        clear hok
        have HX : Hid (Rt (xs.take (i + 1))) := hbad
        by_cases h0 : i = 0
        · have h0i : decide (0 < i) = false := decide_eq_false (by omega)
          clear hat hb hR hbad h0 e0 e1
          generalize xs[i].c = cc at *
          generalize xs[i].u = uu at *
          go_wp2
          go_quiet (fail)
          go_wp2
          go_roundw
          case rel => exact ⟨i + 1, by omega, by go_num, bel_tr HB.out (below_drewN (Below.refl _ _) _), HX.out⟩
          case measure => simp [intOf]; omega
        · obtain ⟨k, hk⟩ : ∃ k, i = k + 1 := ⟨i - 1, by omega⟩
          have hkx : k < xs.length := by omega
          obtain ⟨f0, f1⟩ := hat k hkx
          have s0 : ∀ m, (wr.drewN m).cell? ⟨b, off + k * 2, none⟩ = some (.int .i64 xs[k].c) := fun _ => f0
          have hup : xs[k].c < xs[i].c := by
            have := up_at hbad.up (i := k) (j := i) (by rw [List.length_take]; omega) (by omega)
            rwa [List.getElem_take, List.getElem_take] at this
          have hup2 : decide (xs[i].c ≤ xs[k].c) = false := decide_eq_false (by omega)
          have h0i : decide (0 < i) = true := decide_eq_true (by omega)
          have hik : (i : Int) - 1 = (k : Int) := by omega
          have hkn : k < n := by omega
          clear hat hb hR hbad h0 e0 e1 f0 f1 hk hup
          generalize xs[i].c = cc at *
          generalize xs[i].u = uu at *
          generalize xs[k].c = ck at *
          go_wp2
          go_quiet (fail)
          go_wp2
          go_roundw
          case rel => exact ⟨i + 1, by omega, by go_num, bel_tr HB.out (below_drewN (Below.refl _ _) _), HX.out⟩
          case measure => simp [intOf]; omega
      · have hv0 : v = false := by
          rw [Bool.eq_false_iff]; intro e
          have hx := HV.out.1 e
          exact hbad ⟨fun x hx' => hx.ok x (List.mem_of_mem_take hx'), hx.up.sublist (List.take_sublist _ _)⟩
        subst hv0
        have hcase : ¬ (0 ≤ xs[i].c ∧ xs[i].c < 4 ∧ 0 ≤ xs[i].u ∧ xs[i].u ≤ 9007199254740991) ∨ ∃ k, ∃ hk : k < xs.length, i = k + 1 ∧ xs[i].c ≤ xs[k].c := by
          by_cases hok : 0 ≤ xs[i].c ∧ xs[i].c < 4 ∧ 0 ≤ xs[i].u ∧ xs[i].u ≤ 9007199254740991
          · refine .inr ?_
            by_cases h0 : i = 0
            · exact absurd (rt_next hix hR hok (fun j hj e => by omega)) hbad
            · refine ⟨i - 1, by omega, by omega, ?_⟩
              by_cases hl : (xs[i - 1]'(by omega)).c < xs[i].c
              · refine absurd (rt_next hix hR hok (fun j hj e => ?_)) hbad
                obtain rfl : j = i - 1 := by omega
                exact hl
              · omega
          · exact .inl hok
        clear hR hbad
        by_cases hc : 0 ≤ xs[i].c ∧ xs[i].c < 4
        · have hc1 : decide (xs[i].c < 0) = false := decide_eq_false (by omega)
          have hc2 : decide (4 ≤ xs[i].c) = false := decide_eq_false (by omega)
          by_cases h0 : i = 0
          · have hou : (decide (xs[i].u < 0) || decide (9007199254740991 < xs[i].u)) = true := by
              rcases hcase with hcase | ⟨k, hk, e, _⟩
              · simp; omega
              · omega
            have h0i : decide (0 < i) = false := decide_eq_false (by omega)
            clear hat hb h0 e0 e1 hcase hc
            generalize xs[i].c = cc at *
            generalize xs[i].u = uu at *
            cases hd : decide (uu < 0)
            all_goals
              rw [hd] at hou
              simp only [Bool.false_or, Bool.true_or] at hou
              go_wp2
              go_quiet (fail)
              go_wp2
              go_ret
              exact ⟨rfl, bel_tr HB.out (below_drewN (Below.refl _ _) _)⟩
          · obtain ⟨k, hk⟩ : ∃ k, i = k + 1 := ⟨i - 1, by omega⟩
            have hkx : k < xs.length := by omega
            obtain ⟨f0, f1⟩ := hat k hkx
            have s0 : ∀ m, (wr.drewN m).cell? ⟨b, off + k * 2, none⟩ = some (.int .i64 xs[k].c) := fun _ => f0
            have h0i : decide (0 < i) = true := decide_eq_true (by omega)
            have hik : (i : Int) - 1 = (k : Int) := by omega
            have hkn : k < n := by omega
            have hou : (decide (xs[i].c ≤ xs[k].c) || (decide (xs[i].u < 0) || decide (9007199254740991 < xs[i].u))) = true := by
              rcases hcase with hcase | ⟨k', hk', e, hle⟩
              · simp; omega
              · obtain rfl : k' = k := by omega
                simp [hle]
            clear hat hb h0 e0 e1 f0 f1 hk hcase hc
            generalize xs[i].c = cc at *
            generalize xs[i].u = uu at *
            generalize xs[k].c = ck at *
            cases hd1 : decide (cc ≤ ck) <;> cases hd2 : decide (uu < 0)
            all_goals
              rw [hd1, hd2] at hou
              simp only [Bool.false_or, Bool.true_or] at hou
              go_wp2
              go_quiet (fail)
              go_wp2
              go_ret
              exact ⟨rfl, bel_tr HB.out (below_drewN (Below.refl _ _) _)⟩
        · have hou : (decide (xs[i].c < 0) || decide (4 ≤ xs[i].c)) = true := by simp; omega
          clear hat hb e0 e1 hcase hc
          generalize xs[i].c = cc at *
          generalize xs[i].u = uu at *
          cases hd : decide (cc < 0)
          all_goals
            rw [hd] at hou
            simp only [Bool.false_or, Bool.true_or] at hou
            go_wp2
            go_quiet (fail)
            go_wp2
            go_ret
            exact ⟨rfl, bel_tr HB.out (below_drewN (Below.refl _ _) _)⟩
    · obtain rfl : i = n := by omega
      have hgd : decide ((i : Int) < (i : Int)) = false := decide_eq_false (by omega)
      have hv1 : v = true := HV.out.2 (by
        rwa [List.take_of_length_le (by rw [HN.out]; omega)] at hR)
      subst hv1
      clear hb hR hlt
      go_wp2
      go_ret
      exact ⟨rfl, HB.out⟩

end Go.Proofs.YtigomhilcnnjdaaGreat.Lea

/- The contracts of tabulariumref09.Until, Late, without, Drop. -/
namespace Go.Proofs.YtigomhilcnnjdaaGreat.Lea
open Go.RowKit Go.Proofs.YtigomhilcnnjdaaGreat

set_option maxRecDepth 100000 in
set_option maxHeartbeats 2000000 in
theorem refUntil_val {a : Option Addr} {n c : Nat} {xs : LS} {w : World} (h : LL w a n c xs) (k u : Int) (v : Bool) (hv : untilX xs k = (u, v)) :
    Calls Tryz.prog 63 #[.slice a n c, .int .i64 k] w fun e w' => e = .returned (.tuple #[.int .i64 u, .bool v]) ∧ Below w.heap.size w w' := by
  have HC : Hid (LL w a n c xs) := h
  have HN : Hid (xs.length = n) := h.len
  have hlid := h.lid
  have hroom := h.room
  unfold maxLen at hlid
  have hn63 : n ≤ 9223372036854775807 := by omega
  clear hlid hroom
  by_cases hr : Rt xs
  · have HR : Hid (true = true ↔ Rt xs) := ⟨fun _ => hr, fun _ => rfl⟩
    rw [untilX_yes hr] at hv
    have HV : Hid (findX xs k = (u, v)) := hv
    clear h hr hv
    go_enter Tryz.func63, Tryz.ntmps63
    go_wp2_with (go_at_call 61; refine (refRight_val HC.out true HR.out).mono ?_; rintro e w1 ⟨rfl, c1⟩)
    have C1 : Hid (Below w.heap.size w w1) := c1
    clear c1
    go_loopw [7] (fun v7 wr => ∃ i : Nat, i ≤ n ∧ v7 = .int .i64 i ∧ Below w.heap.size w wr ∧ ∀ j (hj : j < xs.length), j < i → xs[j].c ≠ k) (fun v7 _ => n - (intOf v7).toNat)
    case atStart => exact ⟨0, by omega, rfl, C1.out, fun j hj h0 => by omega⟩
    case round =>
      obtain ⟨i, hi, rfl, hb, hall⟩ := hrel
      have HB : Hid (Below w.heap.size w wr) := hb
      by_cases hlt : i < n
      · have hix : i < xs.length := by rw [HN.out]; exact hlt
        obtain ⟨b, off, rfl, hat⟩ := (HC.out.below hb).at (by omega)
        obtain ⟨e0, e1⟩ := hat i hix
        by_cases hx : xs[i].c = k
        · have hf := find_here hix hx hall
          rw [HV.out] at hf
          simp only [Prod.mk.injEq] at hf
          obtain ⟨hu, rfl⟩ := hf
          have HU : Hid (u = xs[i].u) := hu
          have hxb : (xs[i].c == k) = true := by simpa using hx
          clear hall hat hb hx HV hu
          generalize xs[i].c = cc at *
          generalize xs[i].u = uu at *
          go_wp2
          go_ret2
          exact ⟨by rw [HU.out]; rfl, HB.out⟩
        · have HX : Hid (∀ j (hj : j < xs.length), j < i + 1 → xs[j].c ≠ k) := fun j hj hji => by
            rcases Nat.lt_or_ge j i with h | h
            · exact hall j hj h
            · obtain rfl : j = i := by omega
              exact hx
          have hxb : (xs[i].c == k) = false := by simpa using hx
          clear hall hat hb hx
          generalize xs[i].c = cc at *
          generalize xs[i].u = uu at *
          go_wp2
          go_roundw
          case rel => exact ⟨i + 1, by omega, by go_num, HB.out, HX.out⟩
          case measure => simp [intOf]; omega
      · obtain rfl : i = n := by omega
        have hgd : decide ((i : Int) < (i : Int)) = false := decide_eq_false (by omega)
        have hf : findX xs k = (0, false) := find_none (fun j hj => hall j hj (by rw [← HN.out]; exact hj))
        rw [HV.out] at hf
        simp only [Prod.mk.injEq] at hf
        obtain ⟨rfl, rfl⟩ := hf
        clear hb hall hlt
        go_wp2
        go_ret2
        exact ⟨rfl, HB.out⟩
  · have HR : Hid (false = true ↔ Rt xs) := ⟨fun e => (by cases e), fun e => absurd e hr⟩
    rw [untilX_no hr] at hv
    simp only [Prod.mk.injEq] at hv
    obtain ⟨rfl, rfl⟩ := hv
    clear h hr
    go_enter Tryz.func63, Tryz.ntmps63
    go_wp2_with (go_at_call 61; refine (refRight_val HC.out false HR.out).mono ?_; rintro e w1 ⟨rfl, c1⟩)
    have C1 : Hid (Below w.heap.size w w1) := c1
    clear c1
    go_loopw [7] (fun v7 wr => v7 = .int .i64 0 ∧ wr = w1) (fun _ _ => 0)
    case atStart => exact ⟨rfl, rfl⟩
    case round =>
      obtain ⟨rfl, rfl⟩ := hrel
      cases hd : decide (0 < n)
      all_goals
        go_wp2
        go_ret2
        exact ⟨rfl, C1.out⟩

end Go.Proofs.YtigomhilcnnjdaaGreat.Lea
