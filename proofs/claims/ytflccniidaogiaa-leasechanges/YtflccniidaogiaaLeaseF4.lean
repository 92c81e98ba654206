/- The contracts of slices.BinarySearchFunc, slices.Grow (of nothing), slices.Concat, at leases. -/
import Derived.Test.YtflccniidaogiaaLeaseF3
import Derived.Lib.AppendZeros
namespace Go.Proofs.Ytflccniidaogiaa.Lea
open Go.RowKit Go.Proofs.Ytflccniidaogiaa

set_option maxRecDepth 100000 in
set_option maxHeartbeats 2000000 in
theorem search_val {a : Option Addr} {n c : Nat} {xs : LS} {w : World} (h : LL w a n c xs) (hn4 : n ≤ 4) (x : Ls) (k : Nat) (hk : IsAt xs x.c k) (v : Bool) (hv : v = true ↔ ∃ h : k < xs.length, xs[k].c = x.c) :
    Calls Try.prog 25 #[.slice a n c, lsV x, .func (.func 21) #[] #[]] w fun e w' => e = .returned (.tuple #[.int .i64 k, .bool v]) ∧ Below w.heap.size w w' := by
  have HC : Hid (LL w a n c xs) := h
  have HN : Hid (xs.length = n) := h.len
  have HK : Hid (IsAt xs x.c k) := hk
  have HV : Hid (v = true ↔ ∃ h : k < xs.length, xs[k].c = x.c) := hv
  obtain ⟨xc, xu⟩ := x
  simp only at HK HV
  have hkn : k ≤ n := by rw [← HN.out]; exact hk.le
  have HC0F : Hid (∀ W, Below w.heap.size w W → LL W a n c xs) := fun W hb => h.below hb
  clear h hk hv
  unfold lsV
  go_enter Try.func25, Try.ntmps25
  go_wp2
  have B0 : Hid (Below w.heap.size w (w.alloc (.cells #[.int .i64 xc, .int .i64 xu] 41))) := bel_al _ _
  have Y0 : Hid ((w.alloc (.cells #[.int .i64 xc, .int .i64 xu] 41)).cell? ⟨w.heap.size, 0, none⟩ = some (.int .i64 xc)) := World.cell?_alloc_new w _ _ 0
  have Y1 : Hid ((w.alloc (.cells #[.int .i64 xc, .int .i64 xu] 41)).cell? ⟨w.heap.size, 1, none⟩ = some (.int .i64 xu)) := World.cell?_alloc_new w _ _ 1
  generalize w.alloc (.cells #[.int .i64 xc, .int .i64 xu] 41) = W0 at *
  have HC0 : Hid (LL W0 a n c xs) := HC0F.out W0 B0.out
  go_loopw [9, 10] (fun v9 v10 wr => ∃ i j : Nat, i ≤ k ∧ k ≤ j ∧ j ≤ n ∧ v9 = .int .i64 i ∧ v10 = .int .i64 j ∧ Below W0.heap.size W0 wr) (fun v9 v10 _ => (intOf v10).toNat - (intOf v9).toNat)
  case atStart => exact ⟨0, n, by omega, by omega, by omega, rfl, rfl, Below.refl _ _⟩
  case round =>
    obtain ⟨i, j, h1, h2, h3, rfl, rfl, hb⟩ := hrel
    have HB : Hid (Below W0.heap.size W0 wr) := hb
    have z0 := bel_cell hb Y0.out
    have z1 := bel_cell hb Y1.out
    have r0 : ∀ dd os, (Sort.grow (redrawn wr dd) os).cell? ⟨w.heap.size, 0, none⟩ = some (.int .i64 xc) := fun dd os => cell_regrown z0 dd os
    have r1 : ∀ dd os, (Sort.grow (redrawn wr dd) os).cell? ⟨w.heap.size, 1, none⟩ = some (.int .i64 xu) := fun dd os => cell_regrown z1 dd os
    clear z0 z1
    by_cases hlt : i < j
    · obtain ⟨m, hm⟩ : ∃ m : Nat, ((i : Int) + (j : Int)) / 2 = (m : Int) := ⟨(i + j) / 2, by omega⟩
      have hm1 : i ≤ m := by omega
      have hm2 : m < j := by omega
      have hmn : m < n := by omega
      have hmx : m < xs.length := by rw [HN.out]; exact hmn
      obtain ⟨b, off, rfl, hat⟩ := (HC0.out.below hb).at (by omega)
      obtain ⟨f0, f1⟩ := hat m hmx
      have s0 : ∀ dd os, (Sort.grow (redrawn wr dd) os).cell? ⟨b, off + m * 2, none⟩ = some (.int .i64 xs[m].c) := fun dd os => cell_regrown f0 dd os
      have s1 : ∀ dd os, (Sort.grow (redrawn wr dd) os).cell? ⟨b, off + m * 2 + 1, none⟩ = some (.int .i64 xs[m].u) := fun dd os => cell_regrown f1 dd os
      have HY : Hid (xs[m].c < xc → m + 1 ≤ k) := fun hl => by
        rcases Nat.lt_or_ge m k with h | h
        · exact h
        · have := HK.out.hi m hmx h; omega
      have HZ : Hid (¬ xs[m].c < xc → k ≤ m) := fun hl => by
        rcases Nat.lt_or_ge m k with h | h
        · have := HK.out.lo m hmx h; omega
        · exact h
      have CB : Hid (∀ W r, cmpI xs[m].c xc = r → Calls Try.prog 21 #[.agg #[.int .i64 xs[m].c, .int .i64 xs[m].u], .agg #[.int .i64 xc, .int .i64 xu]] W fun e w' => e = .returned (.int .i64 r) ∧ Below W.heap.size W w') := fun W r hr => byClient_val xs[m] ⟨xc, xu⟩ r W hr
      obtain ⟨r, hr⟩ : ∃ r, cmpI xs[m].c xc = r := ⟨_, rfl⟩
      have HR : Hid (cmpI xs[m].c xc = r) := hr
      have hlti : (i : Int) < (j : Int) := by omega
      clear hb hat f0 f1
      by_cases hx : xs[m].c < xc
      · have hrn : r < 0 := by rw [← hr]; exact cmpI_neg.2 hx
        have hmk := HY.out hx
        clear hr HY HZ hx
        generalize xs[m].c = cc at *
        generalize xs[m].u = uu at *
        clear hmx
        go_wp2
        refine wp_region_quiet_below (by kernel_rfl) (by kernel_rfl) ?_
        repeat (first | go_big_quiet_step (first | exact Calls.regrown_of (CB.out _ _ HR.out) | fail) | quiet_step (first | exact Calls.regrown_of (CB.out _ _ HR.out) | fail))
        refine wpQuiet_nil ?_
        intro _ hw'
        obtain ⟨⟨dq, osq⟩, hw''⟩ := hw'
        subst hw''
        go_wp2
        go_roundw
        case rel => exact ⟨m + 1, j, hmk, h2, h3, by go_num, rfl, bel_tr HB.out (below_regrown _ dq osq)⟩
        case measure => simp [intOf]; omega
      · have hrn : 0 ≤ r := by
          rw [← hr]
          have := mt cmpI_neg.1 hx
          omega
        have hmk := HZ.out hx
        clear hr HY HZ hx
        generalize xs[m].c = cc at *
        generalize xs[m].u = uu at *
        clear hmx
        go_wp2
        refine wp_region_quiet_below (by kernel_rfl) (by kernel_rfl) ?_
        repeat (first | go_big_quiet_step (first | exact Calls.regrown_of (CB.out _ _ HR.out) | fail) | quiet_step (first | exact Calls.regrown_of (CB.out _ _ HR.out) | fail))
        refine wpQuiet_nil ?_
        intro _ hw'
        obtain ⟨⟨dq, osq⟩, hw''⟩ := hw'
        subst hw''
        go_wp2
        go_roundw
        case rel => exact ⟨i, m, h1, hmk, by omega, rfl, rfl, bel_tr HB.out (below_regrown _ dq osq)⟩
        case measure => simp [intOf]; omega
    · obtain rfl : i = j := by omega
      obtain rfl : i = k := by omega
      have hgd : decide ((i : Int) < (i : Int)) = false := decide_eq_false (by omega)
      clear hlt h1 h2
      by_cases hin : i < n
      · have hix : i < xs.length := by rw [HN.out]; exact hin
        obtain ⟨b, off, rfl, hat⟩ := (HC0.out.below hb).at (by omega)
        obtain ⟨f0, f1⟩ := hat i hix
        have s0 : ∀ dd os, (Sort.grow (redrawn wr dd) os).cell? ⟨b, off + i * 2, none⟩ = some (.int .i64 xs[i].c) := fun dd os => cell_regrown f0 dd os
        have s1 : ∀ dd os, (Sort.grow (redrawn wr dd) os).cell? ⟨b, off + i * 2 + 1, none⟩ = some (.int .i64 xs[i].u) := fun dd os => cell_regrown f1 dd os
        have CB : Hid (∀ W r, cmpI xs[i].c xc = r → Calls Try.prog 21 #[.agg #[.int .i64 xs[i].c, .int .i64 xs[i].u], .agg #[.int .i64 xc, .int .i64 xu]] W fun e w' => e = .returned (.int .i64 r) ∧ Below W.heap.size W w') := fun W r hr => byClient_val xs[i] ⟨xc, xu⟩ r W hr
        obtain ⟨r, hr⟩ : ∃ r, cmpI xs[i].c xc = r := ⟨_, rfl⟩
        have HR : Hid (cmpI xs[i].c xc = r) := hr
        have hrv : (r == 0) = v := by
          rw [Bool.eq_iff_iff, HV.out, ← hr, beq_iff_eq, cmpI_zero]
          exact ⟨fun e => ⟨hix, e⟩, fun ⟨_, e⟩ => e⟩
        have hin2 : (i : Int) < (n : Int) := by omega
        clear hb hat f0 f1 hr HV
        generalize xs[i].c = cc at *
        generalize xs[i].u = uu at *
        clear hix
        go_wp2
        refine wp_region_quiet_below (by kernel_rfl) (by kernel_rfl) ?_
        repeat (first | go_big_quiet_step (first | exact Calls.regrown_of (CB.out _ _ HR.out) | fail) | quiet_step (first | exact Calls.regrown_of (CB.out _ _ HR.out) | fail))
        refine wpQuiet_nil ?_
        intro _ hw'
        obtain ⟨⟨dq, osq⟩, hw''⟩ := hw'
        subst hw''
        go_wp2
        go_ret2
        exact ⟨rfl, bel_tr B0.out (bel_tr HB.out (below_regrown _ dq osq))⟩
      · have hv0 : v = false := by
          rw [Bool.eq_false_iff]
          intro e
          obtain ⟨h, _⟩ := HV.out.1 e
          rw [HN.out] at h
          exact hin h
        subst hv0
        have hin2 : decide (i < n) = false := decide_eq_false hin
        clear hb
        go_wp2
        refine wp_region_quiet_below (by kernel_rfl) (by kernel_rfl) ?_
        repeat (first | go_big_quiet_step (fail) | quiet_step (fail))
        refine wpQuiet_nil ?_
        intro _ hw'
        obtain ⟨⟨dq, osq⟩, hw''⟩ := hw'
        subst hw''
        go_wp2
        go_ret2
        exact ⟨rfl, bel_tr B0.out (bel_tr HB.out (below_regrown _ dq osq))⟩

set_option maxRecDepth 100000 in
set_option maxHeartbeats 1000000 in
theorem grow_val (n : Nat) (w : World) (hn : n ≤ 1000) :
    Calls Try.prog 28 #[.slice none 0 0, .int .i64 n] w fun e w' => LsR1 w.heap.size [] 0 e w' ∧ Below w.heap.size w w' := by
  obtain ⟨i0, hi, hz0, hz1, hz2⟩ := lsRow
  by_cases h0 : n = 0
  · subst h0
    go_enter Try.func28, Try.ntmps28
    go_wp2
    go_ret
    exact ⟨⟨_, _, _, rfl, LO.none _ _⟩, Below.refl _ _⟩
  · have hrun := fun ty => Lib.run_append_nil_zeros (P := Try.prog) w 22 3 ty 41 i0 (.agg #[.int .i64 0, .int .i64 0]) .i64 .i64 Try.underlying22 Try.underlying3 hi hz0 n (by omega) (by omega) (by omega) (by rw [hz2]; omega)
    have hge := grownCap_ge w n 0 41
    have hcm := grownCap_le_maxLen w n 0 41 (by unfold maxLen; omega)
    have hszz : (Builtin.zeroCells (Value.agg #[.int .i64 0, .int .i64 0]).cells n ++ Builtin.zeroCells (Value.agg #[.int .i64 0, .int .i64 0]).cells (grownCap w n 0 41 - n)).size = grownCap w n 0 41 * 2 := by
      rw [Array.size_append, size_zeroCells, size_zeroCells]
      show n * 2 + _ * 2 = _
      omega
    generalize grownCap w n 0 41 = c at *
    generalize Builtin.zeroCells (Value.agg #[.int .i64 0, .int .i64 0]).cells n ++ Builtin.zeroCells (Value.agg #[.int .i64 0, .int .i64 0]).cells (c - n) = cur at *
    have HO : Hid (LO w.heap.size (w.drew.alloc (.cells cur 41)) (some ⟨w.heap.size, 0, none⟩) 0 c [] (some w.heap.size)) := by
      refine ⟨.row w.heap.size c rfl (by simp [rowC]) (Nat.le_refl _) (by simp) (Nat.zero_le _) hcm (fun j hj => by simp [rowC] at hj) (fun j hj => ⟨?_, ?_⟩), rfl⟩
      · have e1 : (w.drew.alloc (.cells cur 41)).cell? ⟨w.heap.size, j, none⟩ = _ := World.cell?_alloc_new w.drew _ _ j
        rw [e1, Array.getElem?_eq_getElem (by rw [hszz]; exact hj)]
        rfl
      · exact World.frozen?_alloc_new w.drew _ _ j
    have HB : Hid (Below w.heap.size w (w.drew.alloc (.cells cur 41))) := (((Below.refl _ w).drew).alloc (Nat.le_refl _) _)
    have hcm2 : c ≤ 9223372036854775807 := by unfold maxLen at hcm; omega
    clear hszz hcm
    go_enter Try.func28, Try.ntmps28
    go_wp2_with (at_builtin; refine Lib.wpList_append_run _ rfl _ _ 22 3 rfl _ _ rfl rfl _ _ (hrun _) ?_)
    go_ret
    exact ⟨⟨_, _, _, rfl, HO.out⟩, HB.out⟩

end Go.Proofs.Ytflccniidaogiaa.Lea
