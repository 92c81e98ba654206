/- The contract of lease.Right. -/
import Derived.Test.YtflccniidaogiaaLeaseF1
namespace Go.Proofs.Ytflccniidaogiaa.Lea
open Go.RowKit Go.Proofs.Ytflccniidaogiaa

theorem box0 (wr : World) (x y : Value) (t : TypeId) (dd : Nat) (os : Array Obj) : (Sort.grow (redrawn (wr.alloc (.cells #[x, y] t)) dd) os).cell? ⟨wr.heap.size, 0, none⟩ = some x := cell_regrown (World.cell?_alloc_new wr #[x, y] t 0) dd os
theorem box1 (wr : World) (x y : Value) (t : TypeId) (dd : Nat) (os : Array Obj) : (Sort.grow (redrawn (wr.alloc (.cells #[x, y] t)) dd) os).cell? ⟨wr.heap.size, 1, none⟩ = some y := cell_regrown (World.cell?_alloc_new wr #[x, y] t 1) dd os

set_option maxRecDepth 100000 in
set_option maxHeartbeats 2000000 in
theorem right_val {a : Option Addr} {n c : Nat} {xs : LS} {w : World} (h : LL w a n c xs) (v : Bool) (hv : v = true ↔ Rt xs) :
    Calls Try.prog 13 #[.slice a n c] w fun e w' => e = .returned (.bool v) ∧ Below w.heap.size w w' := by
  have HC : Hid (LL w a n c xs) := h
  have HN : Hid (xs.length = n) := h.len
  have HV : Hid (v = true ↔ Rt xs) := hv
  have hlid := h.lid
  have hroom := h.room
  unfold maxLen at hlid
  have hn : n ≤ 9223372036854775807 := by omega
  clear h hv hlid hroom
  go_enter Try.func13, Try.ntmps13
  go_wp2
  go_loopw [3, 7] (fun _ v7 wr => ∃ i : Nat, i ≤ n ∧ v7 = .int .i64 i ∧ Below w.heap.size w wr ∧ Rt (xs.take i)) (fun _ v7 _ => n - (intOf v7).toNat)
  case atStart => exact ⟨0, by omega, rfl, Below.refl _ _, Rt.nil⟩
  case round =>
    obtain ⟨i, hi, rfl, hb, hR⟩ := hrel
    have HB : Hid (Below w.heap.size w wr) := hb
    have HR : Hid (Rt (xs.take i)) := hR
    by_cases hlt : i < n
    · have hix : i < xs.length := by rw [HN.out]; exact hlt
      obtain ⟨b, off, rfl, hat⟩ := (HC.out.below hb).at (by omega)
      obtain ⟨e0, e1⟩ := hat i hix
      have HNX : Hid ((0 ≤ xs[i].c ∧ xs[i].c < 4 ∧ 0 ≤ xs[i].u ∧ xs[i].u ≤ 9007199254740991) → (∀ j (hj : j < xs.length), j + 1 = i → xs[j].c < xs[i].c) → Rt (xs.take (i + 1))) := fun h1 h2 => rt_next hix hR h1 h2
      have HNO : Hid (¬ (0 ≤ xs[i].c ∧ xs[i].c < 4 ∧ 0 ≤ xs[i].u ∧ xs[i].u ≤ 9007199254740991) → v = false) := fun hn => by
        rw [Bool.eq_false_iff]; intro e; exact rt_not hix hn (HV.out.1 e)
      have HNP : Hid (∀ j (hj : j < xs.length), j + 1 = i → ¬ xs[j].c < xs[i].c → v = false) := fun j hj e hn => by
        subst e
        rw [Bool.eq_false_iff]; intro e; exact rt_not2 hix hn (HV.out.1 e)
      by_cases hok : 0 ≤ xs[i].c ∧ xs[i].c < 4 ∧ 0 ≤ xs[i].u ∧ xs[i].u ≤ 9007199254740991
      · have HOK : Hid _ := hok
        obtain ⟨k1, k2, k3, k4⟩ := hok
        have CI : Hid (∀ W, Calls Try.prog 20 #[.int .i64 xs[i].c] W fun e w' => e = .returned (.bool true) ∧ w' = W) := fun W => isClient_val _ _ W (by simp [k1, k2])
        by_cases h0 : i = 0
        · have HX : Hid (Rt (xs.take (i + 1))) := HNX.out HOK.out (fun j hj e => by omega)
          clear hat hb hR HNX HNO HNP k1 k2 HR HOK
          generalize xs[i].c = cc at *
          generalize xs[i].u = uu at *
          have h0i : decide (0 < i) = false := decide_eq_false (by omega)
          clear h0
          go_wp2_with (go_at_call 20; refine (CI.out _).mono ?_; rintro e w1 ⟨rfl, rfl⟩)
          refine wp_region_quiet_below (by kernel_rfl) (by kernel_rfl) ?_
          repeat (first | go_big_quiet_step (fail) | quiet_step (fail))
          refine wpQuiet_nil ?_
          intro _ hw'
          obtain ⟨⟨dq, osq⟩, hw''⟩ := hw'
          subst hw''
          go_wp2
          go_roundw
          case rel => exact ⟨i + 1, by omega, by go_num, bel_tr HB.out (bel_tr (bel_al _ _) (below_regrown _ dq osq)), HX.out⟩
          case measure => simp [intOf]; omega
        · obtain ⟨k, hk⟩ : ∃ k, i = k + 1 := ⟨i - 1, by omega⟩
          have hkx : k < xs.length := by omega
          obtain ⟨f0, f1⟩ := hat k hkx
          have HXY : Hid (xs[k].c < xs[i].c → Rt (xs.take (i + 1))) := fun hl => HNX.out HOK.out (fun j hj e => by
            obtain rfl : j = k := by omega
            exact hl)
          have HXN : Hid (¬ xs[k].c < xs[i].c → v = false) := HNP.out k hkx hk.symm
          clear hat hb hR HNX HNO HNP k1 k2 HR HOK
          have CB : Hid (∀ W r, cmpI xs[k].c xs[i].c = r → Calls Try.prog 21 #[.agg #[.int .i64 xs[k].c, .int .i64 xs[k].u], .agg #[.int .i64 xs[i].c, .int .i64 xs[i].u]] W fun e w' => e = .returned (.int .i64 r) ∧ Below W.heap.size W w') := fun W r hr => byClient_val xs[k] xs[i] r W hr
          generalize xs[i].c = cc at *
          generalize xs[i].u = uu at *
          generalize xs[k].c = ck at *
          generalize xs[k].u = uk at *
          have h0i : decide (0 < i) = true := decide_eq_true (by omega)
          have hik : (i : Int) - 1 = (k : Int) := by omega
          have hkn : k < n := by omega
          have HIK : Hid (i = k + 1) := hk
          have q0 := cell_al f0
          have q1 := cell_al f1
          have r0 : ∀ o dd os, (Sort.grow (redrawn (wr.alloc o) dd) os).cell? ⟨b, off + k * 2, none⟩ = some (.int .i64 ck) := fun o dd os => cell_regrown (q0 o) dd os
          have r1 : ∀ o dd os, (Sort.grow (redrawn (wr.alloc o) dd) os).cell? ⟨b, off + k * 2 + 1, none⟩ = some (.int .i64 uk) := fun o dd os => cell_regrown (q1 o) dd os
          have s0 := box0 wr (.int .i64 cc) (.int .i64 uu) 41
          have s1 := box1 wr (.int .i64 cc) (.int .i64 uu) 41
          clear h0 hk f0 f1 q0 q1 hkx hix
          obtain ⟨r, hr⟩ : ∃ r, cmpI ck cc = r := ⟨_, rfl⟩
          have HR : Hid (cmpI ck cc = r) := hr
          by_cases hlt2 : ck < cc
          · have hrn : r < 0 := by rw [← hr]; exact cmpI_neg.2 hlt2
            have HX : Hid _ := HXY.out hlt2
            clear hr HXY HXN hlt2
            go_wp2_with (go_at_call 20; refine (CI.out _).mono ?_; rintro e w1 ⟨rfl, rfl⟩)
            refine wp_region_quiet_below (by kernel_rfl) (by kernel_rfl) ?_
            repeat (first | go_big_quiet_step (first | exact Calls.regrown_of (CB.out _ _ HR.out) | fail) | quiet_step (first | exact Calls.regrown_of (CB.out _ _ HR.out) | fail))
            refine wpQuiet_nil ?_
            intro _ hw'
            obtain ⟨⟨dq, osq⟩, hw''⟩ := hw'
            subst hw''
            go_wp2
            go_roundw
            case rel => exact ⟨i + 1, by omega, by go_num, bel_tr HB.out (bel_tr (bel_al _ _) (below_regrown _ dq osq)), HX.out⟩
            case measure => simp [intOf]; omega
          · have hrn : 0 ≤ r := by
              rw [← hr]
              have := mt cmpI_neg.1 hlt2
              omega
            obtain rfl := HXN.out hlt2
            clear hr HXY HXN hlt2
            go_wp2_with (go_at_call 20; refine (CI.out _).mono ?_; rintro e w1 ⟨rfl, rfl⟩)
            refine wp_region_quiet_below (by kernel_rfl) (by kernel_rfl) ?_
            repeat (first | go_big_quiet_step (first | exact Calls.regrown_of (CB.out _ _ HR.out) | fail) | quiet_step (first | exact Calls.regrown_of (CB.out _ _ HR.out) | fail))
            refine wpQuiet_nil ?_
            intro _ hw'
            obtain ⟨⟨dq, osq⟩, hw''⟩ := hw'
            subst hw''
            go_wp2
            go_ret
            exact ⟨rfl, bel_tr HB.out (bel_tr (bel_al _ _) (below_regrown _ dq osq))⟩
      · obtain rfl := HNO.out hok
        clear hat hb hR HNX HNO HNP HR
        cases hcl : (decide (0 ≤ xs[i].c) && decide (xs[i].c < 4)) with
        | false =>
          have CI : Hid (∀ W, Calls Try.prog 20 #[.int .i64 xs[i].c] W fun e w' => e = .returned (.bool false) ∧ w' = W) := fun W => isClient_val _ _ W hcl
          clear hok hcl
          generalize xs[i].c = cc at *
          generalize xs[i].u = uu at *
          go_wp2_with (go_at_call 20; refine (CI.out _).mono ?_; rintro e w1 ⟨rfl, rfl⟩)
          go_ret
          exact ⟨rfl, bel_tr HB.out (bel_al _ _)⟩
        | true =>
          have CI : Hid (∀ W, Calls Try.prog 20 #[.int .i64 xs[i].c] W fun e w' => e = .returned (.bool true) ∧ w' = W) := fun W => isClient_val _ _ W hcl
          simp only [Bool.and_eq_true, decide_eq_true_eq] at hcl
          obtain ⟨k1, k2⟩ := hcl
          have hou : xs[i].u < 0 ∨ 9007199254740991 < xs[i].u := by omega
          clear hok k1 k2
          generalize xs[i].c = cc at *
          generalize xs[i].u = uu at *
          have hou2 : (decide (uu < 0) || decide (9007199254740991 < uu)) = true := by simpa using hou
          clear hou
          go_wp2_with (go_at_call 20; refine (CI.out _).mono ?_; rintro e w1 ⟨rfl, rfl⟩)
          all_goals
            go_ret
            exact ⟨rfl, bel_tr HB.out (bel_al _ _)⟩
    · obtain rfl : i = n := by omega
      have hgd : decide ((i : Int) < (i : Int)) = false := decide_eq_false (by omega)
      have hv1 : v = true := HV.out.2 (by
        rwa [List.take_of_length_le (by rw [HN.out]; omega)] at hR)
      subst hv1
      clear hb hR hlt
      go_wp2
      go_ret
      exact ⟨rfl, HB.out⟩

end Go.Proofs.Ytflccniidaogiaa.Lea
