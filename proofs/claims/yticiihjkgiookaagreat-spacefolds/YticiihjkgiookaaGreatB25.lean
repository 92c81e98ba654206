/- Part 25 of the proof: LeaseF4, LeaseF5, LeaseF6, LeaseF7. -/
import Derived.Test.YticiihjkgiookaaGreatB24
import Derived.Lib.AppendZeros

/- The contracts of slices.BinarySearchFunc, slices.Grow (of nothing), slices.Concat, at leases. -/
namespace Go.Proofs.YticiihjkgiookaaGreat.Lea
open Go.RowKit Go.Proofs.YticiihjkgiookaaGreat

set_option maxRecDepth 100000 in
set_option maxHeartbeats 2000000 in
theorem search_val {a : Option Addr} {n c : Nat} {xs : LS} {w : World} (h : LL w a n c xs) (hn4 : n ≤ 4) (x : Ls) (k : Nat) (hk : IsAt xs x.c k) (v : Bool) (hv : v = true ↔ ∃ h : k < xs.length, xs[k].c = x.c) :
    Calls Tryz.prog 184 #[.slice a n c, lsV x, .func (.func 81) #[] #[]] w fun e w' => e = .returned (.tuple #[.int .i64 k, .bool v]) ∧ Below w.heap.size w w' := by
  have HC : Hid (LL w a n c xs) := h
  have HN : Hid (xs.length = n) := h.len
  have HK : Hid (IsAt xs x.c k) := hk
  have HV : Hid (v = true ↔ ∃ h : k < xs.length, xs[k].c = x.c) := hv
  obtain ⟨xc, xu⟩ := x
  simp only at HK HV
  have hkn : k ≤ n := by rw [← HN.out]; exact hk.le
  have HC0F : Hid (∀ W, Below w.heap.size w W → LL W a n c xs) := fun W hb => h.below hb
  clear h hk hv
  unfold lsV
  go_enter Tryz.func184, Tryz.ntmps184
  go_wp2
  have B0 : Hid (Below w.heap.size w (w.alloc (.cells #[.int .i64 xc, .int .i64 xu] 71))) := bel_al _ _
  have Y0 : Hid ((w.alloc (.cells #[.int .i64 xc, .int .i64 xu] 71)).cell? ⟨w.heap.size, 0, none⟩ = some (.int .i64 xc)) := World.cell?_alloc_new w _ _ 0
  have Y1 : Hid ((w.alloc (.cells #[.int .i64 xc, .int .i64 xu] 71)).cell? ⟨w.heap.size, 1, none⟩ = some (.int .i64 xu)) := World.cell?_alloc_new w _ _ 1
  generalize w.alloc (.cells #[.int .i64 xc, .int .i64 xu] 71) = W0 at *
  have HC0 : Hid (LL W0 a n c xs) := HC0F.out W0 B0.out
  go_loopw [9, 10] (fun v9 v10 wr => ∃ i j : Nat, i ≤ k ∧ k ≤ j ∧ j ≤ n ∧ v9 = .int .i64 i ∧ v10 = .int .i64 j ∧ Below W0.heap.size W0 wr) (fun v9 v10 _ => (intOf v10).toNat - (intOf v9).toNat)
  case atStart => exact ⟨0, n, by omega, by omega, by omega, rfl, rfl, Below.refl _ _⟩
  case round =>
    obtain ⟨i, j, h1, h2, h3, rfl, rfl, hb⟩ := hrel
    have HB : Hid (Below W0.heap.size W0 wr) := hb
    have z0 := bel_cell hb Y0.out
    have z1 := bel_cell hb Y1.out
    have r0 : ∀ dd os, (Sort.grow (redrawn wr dd) os).cell? ⟨w.heap.size, 0, none⟩ = some (.int .i64 xc) := fun dd os => cell_regrown z0 dd os
    have r1 : ∀ dd os, (Sort.grow (redrawn wr dd) os).cell? ⟨w.heap.size, 1, none⟩ = some (.int .i64 xu) := fun dd os => cell_regrown z1 dd os
    clear z0 z1
    by_cases hlt : i < j
    · obtain ⟨m, hm⟩ : ∃ m : Nat, ((i : Int) + (j : Int)) / 2 = (m : Int) := ⟨(i + j) / 2, by omega⟩
      have hm1 : i ≤ m := by omega
      have hm2 : m < j := by omega
      have hmn : m < n := by omega
      have hmx : m < xs.length := by rw [HN.out]; exact hmn
      obtain ⟨b, off, rfl, hat⟩ := (HC0.out.below hb).at (by omega)
      obtain ⟨f0, f1⟩ := hat m hmx
      have s0 : ∀ dd os, (Sort.grow (redrawn wr dd) os).cell? ⟨b, off + m * 2, none⟩ = some (.int .i64 xs[m].c) := fun dd os => cell_regrown f0 dd os
      have s1 : ∀ dd os, (Sort.grow (redrawn wr dd) os).cell? ⟨b, off + m * 2 + 1, none⟩ = some (.int .i64 xs[m].u) := fun dd os => cell_regrown f1 dd os
      have HY : Hid (xs[m].c < xc → m + 1 ≤ k) := fun hl => by
        rcases Nat.lt_or_ge m k with h | h
        · exact h
        · have := HK.out.hi m hmx h; omega
      have HZ : Hid (¬ xs[m].c < xc → k ≤ m) := fun hl => by
        rcases Nat.lt_or_ge m k with h | h
        · have := HK.out.lo m hmx h; omega
        · exact h
      have CB : Hid (∀ W r, cmpI xs[m].c xc = r → Calls Tryz.prog 81 #[.agg #[.int .i64 xs[m].c, .int .i64 xs[m].u], .agg #[.int .i64 xc, .int .i64 xu]] W fun e w' => e = .returned (.int .i64 r) ∧ Below W.heap.size W w') := fun W r hr => byClient_val xs[m] ⟨xc, xu⟩ r W hr
      obtain ⟨r, hr⟩ : ∃ r, cmpI xs[m].c xc = r := ⟨_, rfl⟩
      have HR : Hid (cmpI xs[m].c xc = r) := hr
      have hlti : (i : Int) < (j : Int) := by omega
      clear hb hat f0 f1
      by_cases hx : xs[m].c < xc
      · have hrn : r < 0 := by rw [← hr]; exact cmpI_neg.2 hx
        have hmk := HY.out hx
        clear hr HY HZ hx
        generalize xs[m].c = cc at *
        generalize xs[m].u = uu at *
        clear hmx
        go_wp2
        refine wp_region_quiet_below (by kernel_rfl) (by kernel_rfl) ?_
        repeat (first | go_big_quiet_step (first | exact Calls.regrown_of (CB.out _ _ HR.out) | fail) | quiet_step (first | exact Calls.regrown_of (CB.out _ _ HR.out) | fail))
        refine wpQuiet_nil ?_
        intro _ hw'
        obtain ⟨⟨dq, osq⟩, hw''⟩ := hw'
        subst hw''
        go_wp2
        go_roundw
        case rel => exact ⟨m + 1, j, hmk, h2, h3, by go_num, rfl, bel_tr HB.out (below_regrown _ dq osq)⟩
        case measure => simp [intOf]; omega
      · have hrn : 0 ≤ r := by
          rw [← hr]
          have := mt cmpI_neg.1 hx
          omega
        have hmk := HZ.out hx
        clear hr HY HZ hx
        generalize xs[m].c = cc at *
        generalize xs[m].u = uu at *
        clear hmx
        go_wp2
        refine wp_region_quiet_below (by kernel_rfl) (by kernel_rfl) ?_
        repeat (first | go_big_quiet_step (first | exact Calls.regrown_of (CB.out _ _ HR.out) | fail) | quiet_step (first | exact Calls.regrown_of (CB.out _ _ HR.out) | fail))
        refine wpQuiet_nil ?_
        intro _ hw'
        obtain ⟨⟨dq, osq⟩, hw''⟩ := hw'
        subst hw''
        go_wp2
        go_roundw
        case rel => exact ⟨i, m, h1, hmk, by omega, rfl, rfl, bel_tr HB.out (below_regrown _ dq osq)⟩
        case measure => simp [intOf]; omega
    · obtain rfl : i = j := by omega
      obtain rfl : i = k := by omega
      have hgd : decide ((i : Int) < (i : Int)) = false := decide_eq_false (by omega)
      clear hlt h1 h2
      by_cases hin : i < n
      · have hix : i < xs.length := by rw [HN.out]; exact hin
        obtain ⟨b, off, rfl, hat⟩ := (HC0.out.below hb).at (by omega)
        obtain ⟨f0, f1⟩ := hat i hix
        have s0 : ∀ dd os, (Sort.grow (redrawn wr dd) os).cell? ⟨b, off + i * 2, none⟩ = some (.int .i64 xs[i].c) := fun dd os => cell_regrown f0 dd os
        have s1 : ∀ dd os, (Sort.grow (redrawn wr dd) os).cell? ⟨b, off + i * 2 + 1, none⟩ = some (.int .i64 xs[i].u) := fun dd os => cell_regrown f1 dd os
        have CB : Hid (∀ W r, cmpI xs[i].c xc = r → Calls Tryz.prog 81 #[.agg #[.int .i64 xs[i].c, .int .i64 xs[i].u], .agg #[.int .i64 xc, .int .i64 xu]] W fun e w' => e = .returned (.int .i64 r) ∧ Below W.heap.size W w') := fun W r hr => byClient_val xs[i] ⟨xc, xu⟩ r W hr
        obtain ⟨r, hr⟩ : ∃ r, cmpI xs[i].c xc = r := ⟨_, rfl⟩
        have HR : Hid (cmpI xs[i].c xc = r) := hr
        have hrv : (r == 0) = v := by
          rw [Bool.eq_iff_iff, HV.out, ← hr, beq_iff_eq, cmpI_zero]
          exact ⟨fun e => ⟨hix, e⟩, fun ⟨_, e⟩ => e⟩
        have hin2 : (i : Int) < (n : Int) := by omega
        clear hb hat f0 f1 hr HV
        generalize xs[i].c = cc at *
        generalize xs[i].u = uu at *
        clear hix
        go_wp2
        refine wp_region_quiet_below (by kernel_rfl) (by kernel_rfl) ?_
        repeat (first | go_big_quiet_step (first | exact Calls.regrown_of (CB.out _ _ HR.out) | fail) | quiet_step (first | exact Calls.regrown_of (CB.out _ _ HR.out) | fail))
        refine wpQuiet_nil ?_
        intro _ hw'
        obtain ⟨⟨dq, osq⟩, hw''⟩ := hw'
        subst hw''
        go_wp2
        go_ret2
        exact ⟨rfl, bel_tr B0.out (bel_tr HB.out (below_regrown _ dq osq))⟩
      · have hv0 : v = false := by
          rw [Bool.eq_false_iff]
          intro e
          obtain ⟨h, _⟩ := HV.out.1 e
          rw [HN.out] at h
          exact hin h
        subst hv0
        have hin2 : decide (i < n) = false := decide_eq_false hin
        clear hb
        go_wp2
        refine wp_region_quiet_below (by kernel_rfl) (by kernel_rfl) ?_
        repeat (first | go_big_quiet_step (fail) | quiet_step (fail))
        refine wpQuiet_nil ?_
        intro _ hw'
        obtain ⟨⟨dq, osq⟩, hw''⟩ := hw'
        subst hw''
        go_wp2
        go_ret2
        exact ⟨rfl, bel_tr B0.out (bel_tr HB.out (below_regrown _ dq osq))⟩

set_option maxRecDepth 100000 in
set_option maxHeartbeats 1000000 in
theorem grow_val (n : Nat) (w : World) (hn : n ≤ 1000) :
    Calls Tryz.prog 204 #[.slice none 0 0, .int .i64 n] w fun e w' => LsR1 w.heap.size [] 0 e w' ∧ Below w.heap.size w w' := by
  obtain ⟨i0, hi, hz0, hz1, hz2⟩ := lsRow
  by_cases h0 : n = 0
  · subst h0
    go_enter Tryz.func204, Tryz.ntmps204
    go_wp2
    go_ret
    exact ⟨⟨_, _, _, rfl, LO.none _ _⟩, Below.refl _ _⟩
  · have hrun := fun ty => Lib.run_append_nil_zeros (P := Tryz.prog) w 25 3 ty 71 i0 (.agg #[.int .i64 0, .int .i64 0]) .i64 .i64 Tryz.underlying25 Tryz.underlying3 hi hz0 n (by omega) (by omega) (by omega) (by rw [hz2]; omega)
    have hge := grownCap_ge w n 0 71
    have hcm := grownCap_le_maxLen w n 0 71 (by unfold maxLen; omega)
    have hszz : (Builtin.zeroCells (Value.agg #[.int .i64 0, .int .i64 0]).cells n ++ Builtin.zeroCells (Value.agg #[.int .i64 0, .int .i64 0]).cells (grownCap w n 0 71 - n)).size = grownCap w n 0 71 * 2 := by
      rw [Array.size_append, size_zeroCells, size_zeroCells]
      show n * 2 + _ * 2 = _
      omega
    generalize grownCap w n 0 71 = c at *
    generalize Builtin.zeroCells (Value.agg #[.int .i64 0, .int .i64 0]).cells n ++ Builtin.zeroCells (Value.agg #[.int .i64 0, .int .i64 0]).cells (c - n) = cur at *
    have HO : Hid (LO w.heap.size (w.drew.alloc (.cells cur 71)) (some ⟨w.heap.size, 0, none⟩) 0 c [] (some w.heap.size)) := by
      refine ⟨.row w.heap.size c rfl (by simp [rowC]) (Nat.le_refl _) (by simp) (Nat.zero_le _) hcm (fun j hj => by simp [rowC] at hj) (fun j hj => ⟨?_, ?_⟩), rfl⟩
      · have e1 : (w.drew.alloc (.cells cur 71)).cell? ⟨w.heap.size, j, none⟩ = _ := World.cell?_alloc_new w.drew _ _ j
        rw [e1, Array.getElem?_eq_getElem (by rw [hszz]; exact hj)]
        rfl
      · exact World.frozen?_alloc_new w.drew _ _ j
    have HB : Hid (Below w.heap.size w (w.drew.alloc (.cells cur 71))) := (((Below.refl _ w).drew).alloc (Nat.le_refl _) _)
    have hcm2 : c ≤ 9223372036854775807 := by unfold maxLen at hcm; omega
    clear hszz hcm
    go_enter Tryz.func204, Tryz.ntmps204
    go_wp2_with (at_builtin; refine Lib.wpList_append_run _ rfl _ _ 25 3 rfl _ _ rfl rfl _ _ (hrun _) ?_)
    go_ret
    exact ⟨⟨_, _, _, rfl, HO.out⟩, HB.out⟩

end Go.Proofs.YticiihjkgiookaaGreat.Lea

/- The contracts of slices.Concat (three lists), lease.placed, lease.Renew. -/
namespace Go.Proofs.YticiihjkgiookaaGreat.Lea
open Go.RowKit Go.Proofs.YticiihjkgiookaaGreat

/-- The lists of SS, the first k of them together. -/
def catL (SS : Nat → LS) : Nat → LS
  | 0 => []
  | k + 1 => catL SS k ++ SS k

set_option maxRecDepth 100000 in
set_option maxHeartbeats 1000000 in
theorem concat_any (g : Nat) (A : Nat → Option Addr) (N C : Nat → Nat) (SS : Nat → LS) (w : World)
    (hc : ∀ k, k < 3 → w.cell? ⟨g, k, none⟩ = some (.slice (A k) (N k) (C k))) (hS : ∀ k, k < 3 → LL w (A k) (N k) (C k) (SS k)) (hl : ∀ k, k < 3 → N k ≤ 100) :
    Calls Tryz.prog 185 #[.slice (some ⟨g, 0, none⟩) 3 3] w fun e w' => LsR1 w.heap.size (catL SS 3) (catL SS 3).length e w' ∧ Below w.heap.size w w' := by
  obtain ⟨ti, hi1, hi2, hi3, hi4⟩ := lsRow
  have HC : Hid (∀ k, k < 3 → w.cell? ⟨g, k, none⟩ = some (.slice (A k) (N k) (C k))) := hc
  have HS : Hid (∀ k, k < 3 → LL w (A k) (N k) (C k) (SS k)) := hS
  have HN : Hid (∀ k, k < 3 → (SS k).length = N k) := fun k hk => (hS k hk).len
  have HL : Hid (∀ k, k < 3 → N k ≤ 100) := hl
  clear hc hS hl
  have HT : Hid (∀ k, k ≤ 3 → (catL SS k).length ≤ 100 * k) := by
    intro k hk
    induction k with
    | zero => simp [catL]
    | succ k ih =>
      have h1 := HN.out k (by omega)
      have h2 := HL.out k (by omega)
      have h3 := ih (by omega)
      rw [catL, List.length_append]; omega
  go_enter Tryz.func185, Tryz.ntmps185
  go_wp2
  go_loop [3, 11] (fun s c => ∃ k : Nat, k ≤ 3 ∧ c = .int .i64 k ∧ s = .int .i64 (((catL SS k).length : Nat) : Int)) (fun _ c => 3 - (intOf c).toNat)
  case atStart => exact ⟨0, by omega, rfl, rfl⟩
  case round =>
    obtain ⟨k, hk, rfl, rfl⟩ := hrel
    have ht := HT.out k hk
    by_cases hlt : k < 3
    · have hc := HC.out k hlt
      have hl := HL.out k hlt
      have HE : Hid ((catL SS (k + 1)).length = (catL SS k).length + N k) := by show _ = _; rw [catL, List.length_append, HN.out k hlt]
      generalize (catL SS k).length = T at *
      generalize A k = Ak at *
      generalize N k = Nk at *
      generalize C k = Ck at *
      go_wp2
      go_round
      case rel => exact ⟨k + 1, by omega, by go_num, by rw [HE.out]; go_num⟩
      case measure => simp [intOf]; omega
    · have hk2 : k = 3 := by omega
      subst hk2
      obtain ⟨T, hT⟩ : ∃ T, (catL SS 3).length = T := ⟨_, rfl⟩
      rw [hT] at ht ⊢
      have HTe : Hid ((catL SS 3).length = T) := hT
      clear hT
      go_wp2_with (go_at_call 204; refine (grow_val T _ (by omega)).mono ?_; rintro e w1 ⟨⟨fa0, fc0, g0, rfl, ho0⟩, b1⟩)
      go_loopw [6, 27] (fun v c wr => ∃ (k : Nat) (fa : Option Addr) (fn fc : Nat) (gg : Option Nat), k ≤ 3 ∧ c = .int .i64 k ∧ v = .slice fa fn fc ∧ LO w.heap.size wr fa fn fc (catL SS k) gg ∧ Below w.heap.size w wr) (fun _ c _ => 3 - (intOf c).toNat)
      case atStart => exact ⟨0, fa0, 0, fc0, g0, by omega, rfl, rfl, ho0, b1⟩
      case round =>
        obtain ⟨k, fa, fn, fc, gg, hk, rfl, rfl, hO, hbel⟩ := hrel
        by_cases hlt : k < 3
        · have hc := bel_cell hbel (HC.out k hlt)
          have hl := HL.out k hlt
          have hSl := (HS.out k hlt).below hbel
          have htk := HT.out k (by omega)
          have hfn : fn ≤ 300 := by rw [← hO.len]; omega
          have HSR : Hid (Src Tryz.prog 2 25 (.slice (A k) (N k) (C k)) (N k) (rowC lsC (SS k)) wr) := hSl.src Tryz.underlying25
          have HO : Hid (LO w.heap.size wr fa fn fc (catL SS k) gg) := hO
          have HB : Hid (Below w.heap.size w wr) := hbel
          have HNK : Hid ((SS k).length = N k) := HN.out k hlt
          clear hSl hO hbel htk
          generalize A k = Ak at *
          generalize N k = Nk at *
          generalize C k = Ck at *
          go_wp2_with (at_builtin; refine wpList_append_cel _ rfl _ _ 25 25 rfl 71 ti _ 2 16 Tryz.underlying25 hi1 hi2 hi3 hi4 rfl (O := fun k => w.heap.size ≤ k) _ fn _ gg rfl HO.out.cel _ Nk (rowC lsC (SS k)) rfl HSR.out (by unfold maxLen; omega) (by omega) ?_; intro a2 c2 w2 g2 hC2 hS2 hg2; have A2 : Hid _ := HO.out.app (ys := SS k) HNK.out hC2 HB.out.size; have B2 : Hid _ := HO.out.appBelow hS2 HB.out.size; clear hC2 hS2 hg2)
          go_roundw
          case rel => exact ⟨k + 1, a2, fn + Nk, c2, g2, by omega, by go_num, rfl, A2.out, HB.out.trans B2.out⟩
          case measure => simp [intOf]; omega
        · have hk2 : k = 3 := by omega
          subst hk2
          obtain rfl : fn = T := by rw [← hO.len, HTe.out]
          have HO : Hid _ := hO
          have HB : Hid _ := hbel
          clear hO hbel
          go_wp2
          go_ret
          refine ⟨?_, HB.out⟩
          rw [HTe.out]
          exact ⟨_, _, _, rfl, HO.out⟩

theorem concat_three (g : Nat) (a1 a2 a3 : Option Addr) (n1 n2 n3 c1 c2 c3 : Nat) (s1 s2 s3 : LS) (w : World) (h1 : w.cell? ⟨g, 0, none⟩ = some (.slice a1 n1 c1)) (h2 : w.cell? ⟨g, 1, none⟩ = some (.slice a2 n2 c2)) (h3 : w.cell? ⟨g, 2, none⟩ = some (.slice a3 n3 c3))
    (S1 : LL w a1 n1 c1 s1) (S2 : LL w a2 n2 c2 s2) (S3 : LL w a3 n3 c3 s3) (l1 : n1 ≤ 100) (l2 : n2 ≤ 100) (l3 : n3 ≤ 100) (ys : LS) (hy : s1 ++ s2 ++ s3 = ys) (m : Nat) (hm : ys.length = m) :
    Calls Tryz.prog 185 #[.slice (some ⟨g, 0, none⟩) 3 3] w fun e w' => LsR1 w.heap.size ys m e w' ∧ Below w.heap.size w w' := by
  have hcat : catL (fun k => if k = 0 then s1 else if k = 1 then s2 else s3) 3 = ys := by rw [← hy]; simp [catL]
  have := concat_any g (fun k => if k = 0 then a1 else if k = 1 then a2 else a3) (fun k => if k = 0 then n1 else if k = 1 then n2 else n3) (fun k => if k = 0 then c1 else if k = 1 then c2 else c3) (fun k => if k = 0 then s1 else if k = 1 then s2 else s3) w ?_ ?_ ?_
  · rw [hcat, hm] at this
    exact this
  · intro k hk
    match k, hk with
    | 0, _ => exact h1
    | 1, _ => exact h2
    | 2, _ => exact h3
  · intro k hk
    match k, hk with
    | 0, _ => exact S1
    | 1, _ => exact S2
    | 2, _ => exact S3
  · intro k hk
    match k, hk with
    | 0, _ => exact l1
    | 1, _ => exact l2
    | 2, _ => exact l3

end Go.Proofs.YticiihjkgiookaaGreat.Lea

/- The contracts of lease.placed, lease.Renew. -/
namespace Go.Proofs.YticiihjkgiookaaGreat.Lea
open Go.RowKit Go.Proofs.YticiihjkgiookaaGreat

theorem bel_dr (w : World) : Below w.heap.size w w.drew := (Below.refl _ w).drew

/-- Three lists are laid side by side, the middle one a new one of one lease. -/
theorem cat_val {X : World} {a a3 : Option Addr} {k c n3 c3 : Nat} {s1 s3 : LS} (S1 : LL X a k c s1) (S3 : LL X a3 n3 c3 s3) (hk : k ≤ 100) (hn3 : n3 ≤ 100) (x : Ls) (t : TypeId) (Z : Nat) (hZ : X.heap.size = Z) (ys : LS) (hy : s1 ++ [x] ++ s3 = ys) (m : Nat) (hm : ys.length = m) :
    Calls Tryz.prog 185 #[.slice (some ⟨Z + 1, 0, none⟩) 3 3] ((X.alloc (.cells #[.int .i64 x.c, .int .i64 x.u] 71)).alloc (.cells #[.slice a k c, .slice (some ⟨Z, 0, none⟩) 1 1, .slice a3 n3 c3] t))
      fun e w' => LsR1 X.heap.size ys m e w' ∧ Below X.heap.size X w' := by
  subst hZ
  have b1 := bel_al X (.cells #[.int .i64 x.c, .int .i64 x.u] 71)
  have b2 := bel_al2 X (.cells #[.int .i64 x.c, .int .i64 x.u] 71) (.cells #[.slice a k c, .slice (some ⟨X.heap.size, 0, none⟩) 1 1, .slice a3 n3 c3] t)
  have hs : (X.alloc (.cells #[.int .i64 x.c, .int .i64 x.u] 71)).heap.size = X.heap.size + 1 := by simp
  have e := fun j => World.cell?_alloc_new (X.alloc (.cells #[.int .i64 x.c, .int .i64 x.u] 71)) #[.slice a k c, .slice (some ⟨X.heap.size, 0, none⟩) 1 1, .slice a3 n3 c3] t j
  rw [hs] at e
  have S2 : LL (X.alloc (.cells #[.int .i64 x.c, .int .i64 x.u] 71)) (some ⟨X.heap.size, 0, none⟩) 1 1 [x] := by
    refine ⟨rfl, fun e => (by cases e), Nat.le_refl _, by unfold maxLen; omega, fun _ => ⟨X.heap.size, 0, rfl, fun j hj i v hv => ?_⟩⟩
    obtain rfl : j = 0 := by simpa using hj
    rw [show 0 + 0 * 2 + i = i by omega]
    refine (World.cell?_alloc_new X #[.int .i64 x.c, .int .i64 x.u] 71 i).trans ?_
    show (List.toArray (lsC x))[i]? = some v
    rw [List.getElem?_toArray]; exact hv
  refine (concat_three (X.heap.size + 1) a (some ⟨X.heap.size, 0, none⟩) a3 k 1 n3 c 1 c3 s1 [x] s3 _ (e 0) (e 1) (e 2) (S1.below b2) (S2.below (bel_al _ _)) (S3.below b2) hk (by omega) hn3 ys hy m hm).mono ?_
  rintro f w' ⟨⟨a', c', g', rfl, hO⟩, hb⟩
  exact ⟨⟨a', c', g', rfl, hO.mono b2.size⟩, bel_tr b2 hb⟩

set_option maxRecDepth 100000 in
set_option maxHeartbeats 2000000 in
theorem placed_val {a : Option Addr} {n c : Nat} {xs : LS} {w : World} (h : LL w a n c xs) (hn4 : n ≤ 4) (hp : xs.Pairwise (fun x y => x.c < y.c)) (x : Ls) (ys : LS) (hy : putL xs x = ys) (m : Nat) (hm : ys.length = m) :
    Calls Tryz.prog 158 #[.slice a n c, lsV x, .func (.func 81) #[] #[]] w fun e w' => LsR1 w.heap.size ys m e w' ∧ Below w.heap.size w w' := by
  obtain ⟨k, hk⟩ := isAt_ex hp x.c
  have hkn : k ≤ n := by rw [← h.len]; exact hk.le
  have hroom := h.room
  have hlid := h.lid
  unfold maxLen at hlid
  rw [put_is hp hk] at hy
  obtain ⟨d, rfl⟩ : ∃ d, n = k + d := ⟨n - k, by omega⟩
  obtain ⟨q, rfl⟩ : ∃ q, c = k + q := ⟨c - k, by omega⟩
  have CS : Hid (∀ W v, Below w.heap.size w W → (v = true ↔ ∃ h : k < xs.length, xs[k].c = x.c) → Calls Tryz.prog 184 #[.slice a ((k + d : Nat)) (k + q), lsV x, .func (.func 81) #[] #[]] W fun e w' => e = .returned (.tuple #[.int .i64 k, .bool v]) ∧ Below W.heap.size W w') := fun W v hb hv => search_val (h.below hb) hn4 x k hk v hv
  have HL : Hid (LL w a (k + d) (k + q) xs) := h
  have HLN : Hid (xs.length = k + d) := h.len
  have HM : Hid (ys.length = m) := hm
  obtain ⟨xc, xu⟩ := x
  unfold lsV at *
  simp only at CS hy
  have hk4 : k ≤ 4 := by omega
  have hd4 : d ≤ 4 := by omega
  have hq : k + q ≤ 9223372036854775807 := by omega
  clear hm hlid hp
  have CC : Hid (∀ X a3 n3 c3 s3 t Z, Below w.heap.size w X → X.heap.size = Z → LL X a3 n3 c3 s3 → n3 ≤ 4 → xs.take k ++ [(⟨xc, xu⟩ : Ls)] ++ s3 = ys → Calls Tryz.prog 185 #[.slice (some ⟨Z + 1, 0, none⟩) 3 3] ((X.alloc (.cells #[.int .i64 xc, .int .i64 xu] 71)).alloc (.cells #[.slice a k (k + q), .slice (some ⟨Z, 0, none⟩) 1 1, .slice a3 n3 c3] t))
      fun e w' => LsR1 w.heap.size ys m e w' ∧ Below w.heap.size w w') := fun X a3 n3 c3 s3 t Z hb hZ hS3 hn3 hys => by
    refine (cat_val ((HL.out.below hb).cut k (by omega)) hS3 (by omega) (by omega) ⟨xc, xu⟩ t Z hZ ys hys m HM.out).mono ?_
    rintro e w' ⟨⟨a', c', g', rfl, hO⟩, hb'⟩
    exact ⟨⟨a', c', g', rfl, hO.mono hb.size⟩, bel_tr hb hb'⟩
  cases a with
  | none =>
    have h0 := h.nil rfl
    obtain rfl : k = 0 := by omega
    obtain rfl : q = 0 := by omega
    obtain rfl : d = 0 := by omega
    have hx : xs = [] := List.length_eq_zero_iff.1 HLN.out
    subst hx
    have HV : Hid (false = true ↔ ∃ h : 0 < ([] : LS).length, ([] : LS)[0].c = xc) := ⟨fun e => (by cases e), fun ⟨h, _⟩ => absurd h (by simp)⟩
    have HY : Hid (([] : LS).take 0 ++ [(⟨xc, xu⟩ : Ls)] ++ [] = ys) := by show _ = _; rw [← hy]; simp
    clear h h0 hy hk hkn hroom
    simp only [Nat.add_zero] at CS HL CC
    have S3 : Hid (∀ X, Below w.heap.size w X → LL X none 0 0 []) := fun X hb => LL.zero X none 0 (fun _ => rfl) (Nat.zero_le _)
    go_enter Tryz.func158, Tryz.ntmps158
    go_wp2_with (go_at_call 184; refine (CS.out _ false (bel_al _ _) HV.out).mono ?_; rintro e w1 ⟨rfl, c1⟩; have B1 : Hid (Below w.heap.size w w1) := bel_tr (bel_al _ _) c1; have y0 := bel_cell c1 (World.cell?_alloc_new w _ _ 0); have y1 := bel_cell c1 (World.cell?_alloc_new w _ _ 1); clear c1)
    go_region_with (go_at_call 185; refine (CC.out w1.drew none 0 0 [] _ _ (bel_tr B1.out (bel_dr w1)) rfl (S3.out _ (bel_tr B1.out (bel_dr w1))) (by omega) HY.out).mono ?_; rintro e w2 ⟨⟨a2, c2, g2, rfl, hO⟩, b2⟩; have HO : Hid _ := hO; have B2 : Hid _ := b2; clear hO b2)
    all_goals
      go_wp2
      go_ret
      exact ⟨⟨a2, c2, g2, rfl, HO.out⟩, B2.out⟩
  | some ad =>
    by_cases hq0 : q = 0
    · subst hq0
      obtain rfl : d = 0 := by omega
      have hnv : ¬ ∃ h : k < xs.length, xs[k].c = xc := fun ⟨h, _⟩ => by rw [HLN.out] at h; omega
      rw [if_neg hnv, List.drop_of_length_le (by rw [HLN.out]; omega)] at hy
      have HV : Hid (false = true ↔ ∃ h : k < xs.length, xs[k].c = xc) := ⟨fun e => (by cases e), fun e => absurd e hnv⟩
      have HY : Hid (xs.take k ++ [(⟨xc, xu⟩ : Ls)] ++ [] = ys) := hy
      clear h hy hk hkn hroom hnv
      simp only [Nat.add_zero] at CS HL CC
      have S3 : Hid (∀ X, Below w.heap.size w X → LL X (some ad) 0 0 []) := fun X hb => LL.zero X (some ad) 0 (fun _ => rfl) (Nat.zero_le _)
      go_enter Tryz.func158, Tryz.ntmps158
      go_wp2_with (go_at_call 184; refine (CS.out _ false (bel_al _ _) HV.out).mono ?_; rintro e w1 ⟨rfl, c1⟩; have B1 : Hid (Below w.heap.size w w1) := bel_tr (bel_al _ _) c1; have y0 := bel_cell c1 (World.cell?_alloc_new w _ _ 0); have y1 := bel_cell c1 (World.cell?_alloc_new w _ _ 1); clear c1)
      go_region_with (go_at_call 185; refine (CC.out w1.drew (some ad) 0 0 [] _ _ (bel_tr B1.out (bel_dr w1)) rfl (S3.out _ (bel_tr B1.out (bel_dr w1))) (by omega) HY.out).mono ?_; rintro e w2 ⟨⟨a2, c2, g2, rfl, hO⟩, b2⟩; have HO : Hid _ := hO; have B2 : Hid _ := b2; clear hO b2)
      all_goals
        go_wp2
        go_ret
        exact ⟨⟨a2, c2, g2, rfl, HO.out⟩, B2.out⟩
    · by_cases hv : ∃ h : k < xs.length, xs[k].c = xc
      · rw [if_pos hv] at hy
        have hd0 : 0 < d := by
          obtain ⟨h, _⟩ := hv
          rw [HLN.out] at h; omega
        have HV : Hid (∃ h : k < xs.length, xs[k].c = xc) := hv
        obtain ⟨d', rfl⟩ : ∃ d', d = 1 + d' := ⟨d - 1, by omega⟩
        obtain ⟨q', rfl⟩ : ∃ q', q = 1 + q' := ⟨q - 1, by omega⟩
        have HY : Hid (xs.take k ++ [(⟨xc, xu⟩ : Ls)] ++ xs.drop (k + 1) = ys) := hy
        clear h hy hk hkn hv hd0 hq0
        by_cases hq1 : q' = 0
        · subst hq1
          obtain rfl : d' = 0 := by omega
          have hx0 : xs.drop (k + 1) = [] := List.drop_of_length_le (by rw [HLN.out]; omega)
          rw [hx0] at HY
          clear hx0 hroom
          simp only [Nat.add_zero] at CS HL CC
          have S3 : Hid (∀ X, Below w.heap.size w X → LL X (some (ad.add (k * 2))) 0 0 []) := fun X hb => LL.zero X _ 0 (fun _ => rfl) (Nat.zero_le _)
          go_enter Tryz.func158, Tryz.ntmps158
          go_wp2_with (go_at_call 184; refine (CS.out _ true (bel_al _ _) ⟨fun _ => HV.out, fun _ => rfl⟩).mono ?_; rintro e w1 ⟨rfl, c1⟩; have B1 : Hid (Below w.heap.size w w1) := bel_tr (bel_al _ _) c1; have y0 := bel_cell c1 (World.cell?_alloc_new w _ _ 0); have y1 := bel_cell c1 (World.cell?_alloc_new w _ _ 1); clear c1)
          go_region_with (go_at_call 185; refine (CC.out w1.drew (some (ad.add (k * 2))) 0 0 [] _ _ (bel_tr B1.out (bel_dr w1)) rfl (S3.out _ (bel_tr B1.out (bel_dr w1))) (by omega) HY.out).mono ?_; rintro e w2 ⟨⟨a2, c2, g2, rfl, hO⟩, b2⟩; have HO : Hid _ := hO; have B2 : Hid _ := b2; clear hO b2)
          all_goals
            go_wp2
            go_ret
            exact ⟨⟨a2, c2, g2, rfl, HO.out⟩, B2.out⟩
        · have HR : Hid (∀ X, Below w.heap.size w X → LL X (some ((ad.add (k * 2)).add 2)) d' q' (xs.drop (k + 1))) := fun X hb => by
            have := ((HL.out.below hb).rest).rest
            rw [List.drop_drop, Nat.one_mul] at this
            exact this
          clear hroom
          have S3 : Hid (∀ X, Below w.heap.size w X → LL X (some ((ad.add (k * 2)).add 2)) d' q' (xs.drop (k + 1))) := fun X hb => HR.out X hb
          go_enter Tryz.func158, Tryz.ntmps158
          go_wp2_with (go_at_call 184; refine (CS.out _ true (bel_al _ _) ⟨fun _ => HV.out, fun _ => rfl⟩).mono ?_; rintro e w1 ⟨rfl, c1⟩; have B1 : Hid (Below w.heap.size w w1) := bel_tr (bel_al _ _) c1; have y0 := bel_cell c1 (World.cell?_alloc_new w _ _ 0); have y1 := bel_cell c1 (World.cell?_alloc_new w _ _ 1); clear c1)
          go_region_with (go_at_call 185; refine (CC.out w1.drew (some ((ad.add (k * 2)).add 2)) d' q' (xs.drop (k + 1)) _ _ (bel_tr B1.out (bel_dr w1)) rfl (S3.out _ (bel_tr B1.out (bel_dr w1))) (by omega) HY.out).mono ?_; rintro e w2 ⟨⟨a2, c2, g2, rfl, hO⟩, b2⟩; have HO : Hid _ := hO; have B2 : Hid _ := b2; clear hO b2)
          all_goals
            go_wp2
            go_ret
            exact ⟨⟨a2, c2, g2, rfl, HO.out⟩, B2.out⟩
      · rw [if_neg hv] at hy
        have HV : Hid (¬ ∃ h : k < xs.length, xs[k].c = xc) := hv
        have HY : Hid (xs.take k ++ [(⟨xc, xu⟩ : Ls)] ++ xs.drop k = ys) := hy
        clear h hy hk hkn hv hroom
        have S3 : Hid (∀ X, Below w.heap.size w X → LL X (some (ad.add (k * 2))) d q (xs.drop k)) := fun X hb => (HL.out.below hb).rest
        go_enter Tryz.func158, Tryz.ntmps158
        go_wp2_with (go_at_call 184; refine (CS.out _ false (bel_al _ _) ⟨fun e => (by cases e), fun e => absurd e HV.out⟩).mono ?_; rintro e w1 ⟨rfl, c1⟩; have B1 : Hid (Below w.heap.size w w1) := bel_tr (bel_al _ _) c1; have y0 := bel_cell c1 (World.cell?_alloc_new w _ _ 0); have y1 := bel_cell c1 (World.cell?_alloc_new w _ _ 1); clear c1)
        go_region_with (go_at_call 185; refine (CC.out w1.drew (some (ad.add (k * 2))) d q (xs.drop k) _ _ (bel_tr B1.out (bel_dr w1)) rfl (S3.out _ (bel_tr B1.out (bel_dr w1))) (by omega) HY.out).mono ?_; rintro e w2 ⟨⟨a2, c2, g2, rfl, hO⟩, b2⟩; have HO : Hid _ := hO; have B2 : Hid _ := b2; clear hO b2)
        all_goals
          go_wp2
          go_ret
          exact ⟨⟨a2, c2, g2, rfl, HO.out⟩, B2.out⟩

end Go.Proofs.YticiihjkgiookaaGreat.Lea

/- The contract of lease.Renew. -/
namespace Go.Proofs.YticiihjkgiookaaGreat.Lea
open Go.RowKit Go.Proofs.YticiihjkgiookaaGreat

theorem renX_yes {xs : LS} {k now : Int} (h : Rt xs) (h1 : 0 ≤ k ∧ k < 4) (h2 : 0 ≤ now) (h3 : now ≤ 9007199254740981) : renX xs k now = (putL xs ⟨k, max (findX xs k).1 (now + 10)⟩, true) := if_pos ⟨h, h1, h2, h3⟩
theorem renX_no {xs : LS} {k now : Int} (h : ¬ (Rt xs ∧ (0 ≤ k ∧ k < 4) ∧ 0 ≤ now ∧ now ≤ 9007199254740981)) : renX xs k now = ([], false) := if_neg h

set_option maxRecDepth 100000 in
set_option maxHeartbeats 2000000 in
theorem renew_val {a : Option Addr} {n c : Nat} {xs : LS} {w : World} (h : LL w a n c xs) (k now : Int) (ys : LS) (v : Bool) (m : Nat) (hv : renX xs k now = (ys, v)) (hm : ys.length = m) :
    Calls Tryz.prog 130 #[.slice a n c, .int .i64 k, .int .i64 now] w fun e w' => LsR w.heap.size ys m (errV v) e w' ∧ Below w.heap.size w w' := by
  have HC : Hid (LL w a n c xs) := h
  have HN : Hid (xs.length = n) := h.len
  by_cases hr : Rt xs
  · have HR : Hid (true = true ↔ Rt xs) := ⟨fun _ => hr, fun _ => rfl⟩
    by_cases hk : 0 ≤ k ∧ k < 4
    · have CI : Hid (∀ W, Calls Tryz.prog 80 #[.int .i64 k] W fun e w' => e = .returned (.bool true) ∧ w' = W) := fun W => isClient_val _ _ W (by simp [hk.1, hk.2])
      by_cases hn : 0 ≤ now ∧ now ≤ 9007199254740981
      · rw [renX_yes hr hk hn.1 hn.2] at hv
        simp only [Prod.mk.injEq] at hv
        obtain ⟨hy, rfl⟩ := hv
        obtain ⟨hn1, hn2⟩ := hn
        have hn4 : n ≤ 4 := by rw [← HN.out]; exact hr.few
        obtain ⟨u, b, hu⟩ : ∃ u b, findX xs k = (u, b) := ⟨_, _, rfl⟩
        rw [hu] at hy
        simp only at hy
        have HU : Hid (untilX xs k = (u, b)) := (untilX_yes hr).trans hu
        obtain ⟨M, hM⟩ : ∃ M, max u (now + 10) = M := ⟨_, rfl⟩
        rw [hM] at hy
        have CP : Hid (∀ W, Below w.heap.size w W → Calls Tryz.prog 158 #[.slice a n c, .agg #[.int .i64 k, .int .i64 M], .func (.func 81) #[] #[]] W fun e w' => LsR1 W.heap.size ys m e w' ∧ Below W.heap.size W w') := fun W hb => placed_val (h.below hb) hn4 hr.up ⟨k, M⟩ ys hy m hm
        have CU : Hid (∀ W, Below w.heap.size w W → Calls Tryz.prog 82 #[.slice a n c, .int .i64 k] W fun e w' => e = .returned (.tuple #[.int .i64 u, .bool b]) ∧ Below W.heap.size W w') := fun W hb => until_val (h.below hb) k u b HU.out
        clear h hr hk hy hu hm
        go_enter Tryz.func130, Tryz.ntmps130
        go_wp2_with (first
          | (go_at_call 36; refine (right_val HC.out true HR.out).mono ?_; rintro e w1 ⟨rfl, c1⟩; have B1 : Hid (Below w.heap.size w w1) := c1; clear c1)
          | (go_at_call 80; refine (CI.out _).mono ?_; rintro e w1 ⟨rfl, rfl⟩)
          | (go_at_call 82; refine (CU.out _ B1.out).mono ?_; rintro e w2 ⟨rfl, c2⟩; have B2 : Hid (Below w.heap.size w w2) := bel_tr B1.out c2; clear c2)
          | (go_at_call 158; refine (CP.out _ B2.out).mono ?_; rintro e w3 ⟨⟨a3, c3, g3, rfl, hO⟩, c3b⟩; have HO : Hid _ := hO; have B3 : Hid (Below w.heap.size w w3) := bel_tr B2.out c3b; clear hO c3b))
        go_ret2
        exact ⟨⟨a3, c3, g3, rfl, HO.out.mono B2.out.size⟩, B3.out⟩
      · rw [renX_no (fun e => hn e.2.2)] at hv
        simp only [Prod.mk.injEq] at hv
        obtain ⟨rfl, rfl⟩ := hv
        subst hm
        have hou : (decide (now < 0) || decide (9007199254740981 < now)) = true := by simp; omega
        clear h hr hk hn
        go_enter Tryz.func130, Tryz.ntmps130
        go_wp2_with (first
          | (go_at_call 36; refine (right_val HC.out true HR.out).mono ?_; rintro e w1 ⟨rfl, c1⟩; have B1 : Hid (Below w.heap.size w w1) := c1; clear c1)
          | (go_at_call 80; refine (CI.out _).mono ?_; rintro e w1 ⟨rfl, rfl⟩))
        all_goals
          go_ret2
          exact ⟨LsR.no _ rfl, B1.out⟩
    · have CI : Hid (∀ W, Calls Tryz.prog 80 #[.int .i64 k] W fun e w' => e = .returned (.bool false) ∧ w' = W) := fun W => isClient_val _ _ W (by
        rw [Bool.eq_false_iff]; intro e; simp at e; exact hk e)
      rw [renX_no (fun e => hk e.2.1)] at hv
      simp only [Prod.mk.injEq] at hv
      obtain ⟨rfl, rfl⟩ := hv
      subst hm
      clear h hr hk
      go_enter Tryz.func130, Tryz.ntmps130
      go_wp2_with (first
        | (go_at_call 36; refine (right_val HC.out true HR.out).mono ?_; rintro e w1 ⟨rfl, c1⟩; have B1 : Hid (Below w.heap.size w w1) := c1; clear c1)
        | (go_at_call 80; refine (CI.out _).mono ?_; rintro e w1 ⟨rfl, rfl⟩))
      all_goals
        go_ret2
        exact ⟨LsR.no _ rfl, B1.out⟩
  · have HR : Hid (false = true ↔ Rt xs) := ⟨fun e => (by cases e), fun e => absurd e hr⟩
    rw [renX_no (fun e => hr e.1)] at hv
    simp only [Prod.mk.injEq] at hv
    obtain ⟨rfl, rfl⟩ := hv
    subst hm
    clear h hr
    go_enter Tryz.func130, Tryz.ntmps130
    go_wp2_with (go_at_call 36; refine (right_val HC.out false HR.out).mono ?_; rintro e w1 ⟨rfl, c1⟩)
    go_ret2
    exact ⟨LsR.no _ rfl, c1⟩

end Go.Proofs.YticiihjkgiookaaGreat.Lea
