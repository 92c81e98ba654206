/- TreeLists: for every list of nodes: the statement's function returns true; nothing that was there is changed. No condition. -/
import Derived.Test.YtdcmhbodjmajcaaTreeL2
import Derived.Test.YtdcmhbodjmajcaaTreeT3
import Derived.Test.YtdcmhbodjmajcaaTreeOpen
namespace Go.Proofs.Ytdcmhbodjmajcaa.treeLists
open Go.ChangeShapes Go.WideShapes Go.ChangeAt Go.RowKit
set_option linter.unusedVariables false

theorem own : ownKnob Try.prog.godebug = none := by kernel_rfl

def S (xs : NS) (i : Nat) : Nat := ((xs.take i).map (cntN xs)).sum
theorem S_zero (xs : NS) : S xs 0 = 0 := by simp [S]
theorem S_next (xs : NS) (i : Nat) (hi : i < xs.length) : S xs (i + 1) = S xs i + cntN xs xs[i] := by
  unfold S
  rw [List.take_succ_eq_append_getElem hi, List.map_append, List.sum_append]
  simp
theorem sum_take (g : Nd → Nat) (xs : NS) (i : Nat) : ((xs.take i).map g).sum ≤ (xs.map g).sum := by
  conv => rhs; rw [← List.take_append_drop i xs, List.map_append, List.sum_append]
  omega
theorem S_le (xs : NS) (i : Nat) : S xs i ≤ (xs.map (cntN xs)).sum := sum_take _ _ _

/-- What is added to texts. -/
theorem add_is (a b : ByteArray) (ha : a.size ≤ 1000) (hb : b.size ≤ 1000) : ∃ Q : ByteArray, a ++ b = Q ∧ (∀ w : World, (Op.stringOp .add a b).run Try.prog w = .ok (.string Q) w) ∧ Q.size = a.size + b.size :=
  ⟨a ++ b, rfl, fun w => run_string_add_sum w a b (by omega), ByteArray.size_append⟩

set_option maxRecDepth 100000 in
set_option maxHeartbeats 4000000 in
theorem core {a : Option Addr} {n c : Nat} {xs : NS} (w : World) (h : NL w a n xs) :
    Calls Try.prog 7 #[.slice a n c] w fun e w' => e = .returned (.bool true) ∧ Below w.heap.size w w' := by
  have CR : Hid (∀ W u, Below w.heap.size w W → (u = true ↔ Right xs) → Calls Try.prog 15 #[.slice a n c] W fun e w' => e = .returned (.bool u) ∧ Below W.heap.size W w') := fun W u hb hu => right_val (h.below hb) u hu
  by_cases hR : Right xs
  · have HLEN : Hid (xs.length = n) := by obtain ⟨_, _, _, _, k2, _⟩ := h.ex; exact k2
    have hn60 : n ≤ 60 := by rw [← HLEN.out]; exact hR.few
    have hn0 : 0 < n := by rw [← HLEN.out]; exact hR.pos
    obtain ⟨b, off, ps, k1, k2, k3⟩ := h.ex
    have hpl : ps.length = n := by rw [← k2, ← k1, List.length_map]
    obtain rfl := k3.addr (by omega)
    have HAT : Hid (∀ W i (hi : i < xs.length), Below w.heap.size w W → W.cell? ⟨b, off + i * 5, none⟩ = some (.string xs[i].path) ∧ W.cell? ⟨b, off + i * 5 + 1, none⟩ = some (.bool xs[i].dir)) := fun W i hi hb => by
      have hip : i < ps.length := by omega
      obtain ⟨e0, e1, _⟩ := (k3.below hb).at hip
      have e : ps[i].1 = xs[i] := by subst k1; simp
      rw [e] at e0 e1
      exact ⟨e0, e1⟩
    have CL : Hid (∀ W i (hi : i < xs.length) E, Below w.heap.size w W → ListE xs xs[i].path E → Calls Try.prog 10 #[.slice (some ⟨b, off, none⟩) n c, .string xs[i].path] W fun e w' => NamesR (listL xs xs[i].path E) E e w' ∧ Below W.heap.size W w') := fun W i hi E hb hE => list_val (h.below hb) _ (h.small _ (List.getElem_mem hi)) E hE
    have CF : Hid (∀ W p I, Below w.heap.size w W → findI xs p = I → Calls Try.prog 17 #[.slice (some ⟨b, off, none⟩) n c, .string p] W fun e w' => e = .returned (.int .i64 I) ∧ Below W.heap.size W w') := fun W p I hb hI => find_val (h.below hb) p I hI
    have HR : Hid (Right xs) := hR
    have HSUM : Hid (S xs n + 1 = n) := by
      have := count_all hR
      show S xs n + 1 = n
      unfold S
      rw [List.take_of_length_le (by rw [HLEN.out]; omega), this, HLEN.out]
    have HSL : Hid (∀ i, S xs i + 1 ≤ n) := fun i => by
      have h1 := S_le xs i
      have h2 := count_all hR
      have h3 := HLEN.out
      show S xs i + 1 ≤ n
      omega
    clear h hR k1 k2 k3 hpl
    go_enter Try.func7, Try.ntmps7
    go_wp2_with fail
    refine (examples_val _).mono ?_
    rintro e w1 ⟨rfl, c1⟩
    have C1 : Hid (Below w.heap.size w w1) := c1
    clear c1
    go_wp2_with (refine (CR.out _ true C1.out ⟨fun _ => HR.out, fun _ => rfl⟩).mono ?_; rintro e w2 ⟨rfl, c2⟩; have C2 : Hid (Below w.heap.size w w2) := bel_tr C1.out c2; clear c2)
    go_loopw [4, 5, 6, 7, 8, 9] (fun v4 v5 _ _ _ _ wr => ∃ i M : Nat, i ≤ n ∧ v5 = .int .i64 i ∧ v4 = .int .i64 M ∧ M = S xs i + 1 ∧ Below w.heap.size w wr) (fun _ v5 _ _ _ _ _ => n - (intOf v5).toNat)
    case atStart => exact ⟨0, 1, by omega, rfl, rfl, by rw [S_zero], C2.out⟩
    case round =>
      obtain ⟨i, M, hi, rfl, rfl, hM, hb⟩ := hrel
      rename World => wo
      have HB : Hid (Below w.heap.size w wo) := hb
      have HM : Hid (M = S xs i + 1) := hM
      have hM60 : M ≤ 60 := by have := HSL.out i; omega
      by_cases hlt : i < n
      · have hix : i < xs.length := by rw [HLEN.out]; exact hlt
        obtain ⟨e0, e1⟩ := HAT.out wo i hix hb
        have hfit := HR.out.fit _ (List.getElem_mem hix)
        have hsp := fits_path hfit
        have hq120 : xs[i].path.size ≤ 120 := by
          rw [splitX_ok hsp]; exact pathT_small (split_ok hsp).1
        have hpb : pathB xs[i].path = true := by unfold pathB; rw [hsp]; rfl
        have hdE := dirE_of (right_asc HR.out).apart (List.getElem_mem hix)
        have HNX := S_next xs i hix
        have HCL : Hid (∀ W E, Below w.heap.size w W → ListE xs xs[i].path E → Calls Try.prog 10 #[.slice (some ⟨b, off, none⟩) n c, .string xs[i].path] W fun e w' => NamesR (listL xs xs[i].path E) E e w' ∧ Below W.heap.size W w') := fun W E => CL.out W i hix E
        have HCELL : Hid (∀ W, Below w.heap.size w W → W.cell? ⟨b, off + i * 5, none⟩ = some (.string xs[i].path) ∧ W.cell? ⟨b, off + i * 5 + 1, none⟩ = some (.bool xs[i].dir)) := fun W hb => HAT.out W i hix hb
        have HCNT : cntN xs xs[i] = if xs[i].dir then (namesL xs xs[i].path).length else 0 := rfl
        rw [HCNT] at HNX
        have HNX2 : Hid _ := HNX
        have HDE : Hid _ := hdE
        have HSP : Hid _ := hsp
        have HPB : Hid _ := hpb
        clear hfit hsp hpb hdE HNX HCNT hb hM
        generalize xs[i].path = q at *
        generalize xs[i].dir = d at *
        cases d with
        | false =>
          have HE : Hid (ListE xs q 7) := .dir 7 HR.out HPB.out HDE.out (by decide)
          go_wp2_with fail
          refine (HCL.out _ 7 HB.out HE.out).mono ?_
          rintro e w3 ⟨⟨la, lb, ln, lc, rfl, hln, hS⟩, c3⟩
          have B3 : Hid (Below w.heap.size w w3) := bel_tr HB.out c3
          obtain ⟨f0, f1⟩ := HCELL.out w3 B3.out
          clear hS hln c3 e0 e1
          go_wp2
          go_roundw
          case rel => exact ⟨i + 1, M, by omega, by go_num, rfl, by rw [HNX2.out, HM.out]; simp, B3.out⟩
          case measure => simp [intOf]; omega
        | true =>
          have HE : Hid (ListE xs q 0) := .ok HR.out HPB.out HDE.out
          obtain ⟨ns, hns⟩ : ∃ ns, namesL xs q = ns := ⟨_, rfl⟩
          have HASC : Hid (ns.Pairwise (fun a b => ltB a b = true)) := by show ns.Pairwise _; rw [← hns]; exact names_asc (right_asc HR.out) q
          have HNAT : Hid (∀ m ∈ ns, at? xs (kid q m) ≠ none ∧ m.size ≤ 20) := fun m hm => by rw [← hns] at hm; exact names_at hm
          have HLL : Hid (listL xs q 0 = ns) := hns
          have hNX3 : S xs (i + 1) = S xs i + ns.length := by have := HNX2.out; rw [hns] at this; simpa using this
          have HNX3 : Hid _ := hNX3
          have hM2 : M + ns.length ≤ 60 := by have := HSL.out (i + 1); have := HM.out; omega
          clear hns hNX3 HNX2
          go_wp2_with fail
          refine (HCL.out _ 0 HB.out HE.out).mono ?_
          rintro e w3 ⟨⟨la, lb, ln, lc, rfl, hln, hS⟩, c3⟩
          rw [HLL.out] at hln hS
          have B3 : Hid (Below w.heap.size w w3) := bel_tr HB.out c3
          obtain ⟨f0, f1⟩ := HCELL.out w3 B3.out
          have HS3 : Hid (Strs w3 la lb 0 ns) := hS
          have HLN : Hid (ns.length = ln) := hln
          rw [hln] at hM2
          clear hS hln c3 e0 e1
          go_wp2
          go_loopw [8, 9] (fun v8 _ wr => ∃ k : Nat, k ≤ ln ∧ v8 = .int .i64 k ∧ Below w3.heap.size w3 wr) (fun v8 _ _ => ln - (intOf v8).toNat)
          case atStart => exact ⟨0, by omega, rfl, Below.refl _ _⟩
          case round =>
            obtain ⟨k, hk, rfl, hbk⟩ := hrel
            have HBK : Hid (Below w3.heap.size w3 wr) := hbk
            have hBW : Below w.heap.size w wr := bel_tr B3.out hbk
            have HBW : Hid (Below w.heap.size w wr) := hBW
            by_cases hkl : k < ln
            · have hkn : k < ns.length := by rw [HLN.out]; exact hkl
              have hSr := HS3.out.below hbk
              obtain rfl := hSr.addr (by omega)
              have s0 := hSr.cell k hkn
              rw [Nat.zero_add] at s0
              obtain ⟨hat, hsz⟩ := HNAT.out _ (List.getElem_mem hkn)
              obtain ⟨I, hI, _⟩ := find_pos hat
              have hprev : 0 < k → ∃ m : ByteArray, wr.cell? ⟨lb, k - 1, none⟩ = some (.string m) ∧ Op.bytesLess ns[k].toList m.toList = false ∧ (ns[k].toList == m.toList) = false := fun hk0 => by
                have s1 := hSr.cell (k - 1) (by omega)
                rw [Nat.zero_add] at s1
                have hl : ltB (ns[k - 1]'(by omega)) ns[k] = true := by
                  have := HASC.out
                  rw [List.pairwise_iff_getElem] at this
                  exact this (k - 1) k (by omega) hkn (by omega)
                refine ⟨_, s1, ltB_asymm hl, ?_⟩
                rw [same_eq, decide_eq_false]
                exact (ltB_ne hl).symm
              obtain ⟨g0, g1⟩ := HCELL.out wr hBW
              clear hSr hbk hBW hat f0 f1
              generalize ns[k] = m at *
              obtain ⟨Q1, hQ1, hq1, hz1⟩ := add_is q ⟨#[47]⟩ (by omega) (by decide)
              obtain ⟨P0, hP0, hp0, hz0⟩ := add_is Q1 m (by rw [hz1]; show q.size + 1 ≤ 1000; omega) (by omega)
              obtain ⟨P2, hP2, hp2, hz2⟩ := add_is ⟨#[47]⟩ m (by decide) (by omega)
              have e47 := root_eq q
              have HI : Hid (findI xs (kid q m) = (I : Int)) := hI
              have S0 : Hid _ := s0
              have G0 : Hid _ := g0
              by_cases hr : q = rootP
              · rw [decide_eq_true hr] at e47
                have hkd : kid q m = P2 := by rw [hr, kid_root, hP2]
                rw [hkd] at HI
                clear hQ1 hz1 hP0 hz0 hP2 hz2 hr hkd hI g1 HCELL HCL HAT CL CR
                by_cases hk0 : k = 0
                · have d0 : decide ((0 : Int) < (k : Int)) = false := decide_eq_false (by omega)
                  have d1 : decide (0 < k) = false := decide_eq_false (by omega)
                  clear hprev hk0
                  have r0 := fun dd os => cell_regrown g0 dd os
                  have r1 := fun dd os => cell_regrown s0 dd os
                  go_wp2
                  refine wp_region_quiet_below (by kernel_rfl) (by kernel_rfl) ?_
                  repeat (first | go_big_quiet_step (fail) | quiet_step (fail))
                  refine wpQuiet_nil ?_
                  intro _ hw'
                  obtain ⟨⟨dq, osq⟩, hw''⟩ := hw'
                  subst hw''
                  have B4 : Hid (Below wr.heap.size wr (Sort.grow (redrawn wr dq) osq)) := below_regrown wr dq osq
                  clear r0 r1
                  generalize Sort.grow (redrawn wr dq) osq = w4 at *
                  have t0 := bel_cell B4.out G0.out
                  have t1 := bel_cell B4.out S0.out
                  have u0 := fun dd os => cell_regrown t0 dd os
                  have u1 := fun dd os => cell_regrown t1 dd os
                  have C5 : Hid (∀ dd os, Calls Try.prog 17 #[.slice (some ⟨b, off, none⟩) n c, .string P2] (Sort.grow (redrawn w4 dd) os) fun e w' => e = .returned (.int .i64 (I : Int)) ∧ Below (Sort.grow (redrawn w4 dd) os).heap.size (Sort.grow (redrawn w4 dd) os) w') := fun dd os => CF.out _ _ _ (bel_tr (bel_tr HBW.out B4.out) (below_regrown w4 dd os)) HI.out
                  go_wp2
                  refine wp_region_quiet_below (by kernel_rfl) (by kernel_rfl) ?_
                  repeat (first | go_big_quiet_step (exact Calls.regrown_of (C5.out _ _)) | quiet_step (exact Calls.regrown_of (C5.out _ _)))
                  refine wpQuiet_nil ?_
                  intro _ hw'
                  obtain ⟨⟨dr, osr⟩, hw''⟩ := hw'
                  subst hw''
                  have B5 : Hid (Below w4.heap.size w4 (Sort.grow (redrawn w4 dr) osr)) := below_regrown w4 dr osr
                  clear u0 u1 C5 t0 t1
                  generalize Sort.grow (redrawn w4 dr) osr = w5 at *
                  go_wp2
                  go_roundw
                  case rel => exact ⟨k + 1, by omega, by go_num, bel_tr HBK.out (bel_tr B4.out B5.out)⟩
                  case measure => simp [intOf]; omega
                · obtain ⟨mm, sm, l1, l2⟩ := hprev (by omega)
                  have d0 : decide ((0 : Int) < (k : Int)) = true := decide_eq_true (by omega)
                  have d1 : decide (0 < k) = true := decide_eq_true (by omega)
                  obtain ⟨k', hk'⟩ : ∃ k', k - 1 = k' := ⟨_, rfl⟩
                  have hik : (k : Int) - 1 = (k' : Int) := by omega
                  have hkn' : k' < ln := by omega
                  rw [hk'] at sm
                  have SM : Hid _ := sm
                  clear hprev sm hk'
                  have r0 := fun dd os => cell_regrown g0 dd os
                  have r1 := fun dd os => cell_regrown s0 dd os
                  go_wp2
                  refine wp_region_quiet_below (by kernel_rfl) (by kernel_rfl) ?_
                  repeat (first | go_big_quiet_step (fail) | quiet_step (fail))
                  refine wpQuiet_nil ?_
                  intro _ hw'
                  obtain ⟨⟨dq, osq⟩, hw''⟩ := hw'
                  subst hw''
                  have B4 : Hid (Below wr.heap.size wr (Sort.grow (redrawn wr dq) osq)) := below_regrown wr dq osq
                  clear r0 r1
                  generalize Sort.grow (redrawn wr dq) osq = w4 at *
                  have t0 := bel_cell B4.out G0.out
                  have t1 := bel_cell B4.out S0.out
                  have u0 := fun dd os => cell_regrown t0 dd os
                  have u1 := fun dd os => cell_regrown t1 dd os
                  have u2 := fun dd os => cell_regrown (bel_cell B4.out SM.out) dd os
                  have C5 : Hid (∀ dd os, Calls Try.prog 17 #[.slice (some ⟨b, off, none⟩) n c, .string P2] (Sort.grow (redrawn w4 dd) os) fun e w' => e = .returned (.int .i64 (I : Int)) ∧ Below (Sort.grow (redrawn w4 dd) os).heap.size (Sort.grow (redrawn w4 dd) os) w') := fun dd os => CF.out _ _ _ (bel_tr (bel_tr HBW.out B4.out) (below_regrown w4 dd os)) HI.out
                  go_wp2
                  refine wp_region_quiet_below (by kernel_rfl) (by kernel_rfl) ?_
                  repeat (first | go_big_quiet_step (exact Calls.regrown_of (C5.out _ _)) | quiet_step (exact Calls.regrown_of (C5.out _ _)))
                  refine wpQuiet_nil ?_
                  intro _ hw'
                  obtain ⟨⟨dr, osr⟩, hw''⟩ := hw'
                  subst hw''
                  have B5 : Hid (Below w4.heap.size w4 (Sort.grow (redrawn w4 dr) osr)) := below_regrown w4 dr osr
                  clear u0 u1 C5 t0 t1
                  generalize Sort.grow (redrawn w4 dr) osr = w5 at *
                  go_wp2
                  go_roundw
                  case rel => exact ⟨k + 1, by omega, by go_num, bel_tr HBK.out (bel_tr B4.out B5.out)⟩
                  case measure => simp [intOf]; omega
              · rw [decide_eq_false hr] at e47
                have hkd : kid q m = P0 := by rw [kid_not hr, hQ1, hP0]
                rw [hkd] at HI
                clear hQ1 hz1 hP0 hz0 hP2 hz2 hr hkd hI g1 HCELL HCL HAT CL CR
                by_cases hk0 : k = 0
                · have d0 : decide ((0 : Int) < (k : Int)) = false := decide_eq_false (by omega)
                  have d1 : decide (0 < k) = false := decide_eq_false (by omega)
                  clear hprev hk0
                  have r0 := fun dd os => cell_regrown g0 dd os
                  have r1 := fun dd os => cell_regrown s0 dd os
                  go_wp2
                  refine wp_region_quiet_below (by kernel_rfl) (by kernel_rfl) ?_
                  repeat (first | go_big_quiet_step (fail) | quiet_step (fail))
                  refine wpQuiet_nil ?_
                  intro _ hw'
                  obtain ⟨⟨dq, osq⟩, hw''⟩ := hw'
                  subst hw''
                  have B4 : Hid (Below wr.heap.size wr (Sort.grow (redrawn wr dq) osq)) := below_regrown wr dq osq
                  clear r0 r1
                  generalize Sort.grow (redrawn wr dq) osq = w4 at *
                  have t0 := bel_cell B4.out G0.out
                  have t1 := bel_cell B4.out S0.out
                  have u0 := fun dd os => cell_regrown t0 dd os
                  have u1 := fun dd os => cell_regrown t1 dd os
                  have C5 : Hid (∀ dd os, Calls Try.prog 17 #[.slice (some ⟨b, off, none⟩) n c, .string P0] (Sort.grow (redrawn w4 dd) os) fun e w' => e = .returned (.int .i64 (I : Int)) ∧ Below (Sort.grow (redrawn w4 dd) os).heap.size (Sort.grow (redrawn w4 dd) os) w') := fun dd os => CF.out _ _ _ (bel_tr (bel_tr HBW.out B4.out) (below_regrown w4 dd os)) HI.out
                  go_wp2
                  refine wp_region_quiet_below (by kernel_rfl) (by kernel_rfl) ?_
                  repeat (first | go_big_quiet_step (exact Calls.regrown_of (C5.out _ _)) | quiet_step (exact Calls.regrown_of (C5.out _ _)))
                  refine wpQuiet_nil ?_
                  intro _ hw'
                  obtain ⟨⟨dr, osr⟩, hw''⟩ := hw'
                  subst hw''
                  have B5 : Hid (Below w4.heap.size w4 (Sort.grow (redrawn w4 dr) osr)) := below_regrown w4 dr osr
                  clear u0 u1 C5 t0 t1
                  generalize Sort.grow (redrawn w4 dr) osr = w5 at *
                  go_wp2
                  go_roundw
                  case rel => exact ⟨k + 1, by omega, by go_num, bel_tr HBK.out (bel_tr B4.out B5.out)⟩
                  case measure => simp [intOf]; omega
                · obtain ⟨mm, sm, l1, l2⟩ := hprev (by omega)
                  have d0 : decide ((0 : Int) < (k : Int)) = true := decide_eq_true (by omega)
                  have d1 : decide (0 < k) = true := decide_eq_true (by omega)
                  obtain ⟨k', hk'⟩ : ∃ k', k - 1 = k' := ⟨_, rfl⟩
                  have hik : (k : Int) - 1 = (k' : Int) := by omega
                  have hkn' : k' < ln := by omega
                  rw [hk'] at sm
                  have SM : Hid _ := sm
                  clear hprev sm hk'
                  have r0 := fun dd os => cell_regrown g0 dd os
                  have r1 := fun dd os => cell_regrown s0 dd os
                  go_wp2
                  refine wp_region_quiet_below (by kernel_rfl) (by kernel_rfl) ?_
                  repeat (first | go_big_quiet_step (fail) | quiet_step (fail))
                  refine wpQuiet_nil ?_
                  intro _ hw'
                  obtain ⟨⟨dq, osq⟩, hw''⟩ := hw'
                  subst hw''
                  have B4 : Hid (Below wr.heap.size wr (Sort.grow (redrawn wr dq) osq)) := below_regrown wr dq osq
                  clear r0 r1
                  generalize Sort.grow (redrawn wr dq) osq = w4 at *
                  have t0 := bel_cell B4.out G0.out
                  have t1 := bel_cell B4.out S0.out
                  have u0 := fun dd os => cell_regrown t0 dd os
                  have u1 := fun dd os => cell_regrown t1 dd os
                  have u2 := fun dd os => cell_regrown (bel_cell B4.out SM.out) dd os
                  have C5 : Hid (∀ dd os, Calls Try.prog 17 #[.slice (some ⟨b, off, none⟩) n c, .string P0] (Sort.grow (redrawn w4 dd) os) fun e w' => e = .returned (.int .i64 (I : Int)) ∧ Below (Sort.grow (redrawn w4 dd) os).heap.size (Sort.grow (redrawn w4 dd) os) w') := fun dd os => CF.out _ _ _ (bel_tr (bel_tr HBW.out B4.out) (below_regrown w4 dd os)) HI.out
                  go_wp2
                  refine wp_region_quiet_below (by kernel_rfl) (by kernel_rfl) ?_
                  repeat (first | go_big_quiet_step (exact Calls.regrown_of (C5.out _ _)) | quiet_step (exact Calls.regrown_of (C5.out _ _)))
                  refine wpQuiet_nil ?_
                  intro _ hw'
                  obtain ⟨⟨dr, osr⟩, hw''⟩ := hw'
                  subst hw''
                  have B5 : Hid (Below w4.heap.size w4 (Sort.grow (redrawn w4 dr) osr)) := below_regrown w4 dr osr
                  clear u0 u1 C5 t0 t1
                  generalize Sort.grow (redrawn w4 dr) osr = w5 at *
                  go_wp2
                  go_roundw
                  case rel => exact ⟨k + 1, by omega, by go_num, bel_tr HBK.out (bel_tr B4.out B5.out)⟩
                  case measure => simp [intOf]; omega
            · obtain rfl : k = ln := by omega
              have hgd : decide ((k : Int) < (k : Int)) = false := decide_eq_false (by omega)
              clear hbk hBW f0 f1
              go_wp2
              go_roundw
              case rel => exact ⟨i + 1, M + k, by omega, by go_num, by go_num, by rw [HNX3.out, HM.out, HLN.out]; omega, HBW.out⟩
              case measure => simp [intOf]; omega
      · obtain rfl : i = n := by omega
        have hgd : decide ((i : Int) < (i : Int)) = false := decide_eq_false (by omega)
        have hMn : M = i := by have := HSUM.out; omega
        subst hMn
        clear hb hM hlt
        go_wp2
        go_ret
        exact ⟨rfl, HB.out⟩
  · have HNR : Hid (¬ Right xs) := hR
    clear h hR
    go_enter Try.func7, Try.ntmps7
    go_wp2_with fail
    refine (examples_val _).mono ?_
    rintro e w1 ⟨rfl, c1⟩
    have C1 : Hid (Below w.heap.size w w1) := c1
    clear c1
    go_wp2_with (refine (CR.out _ false C1.out ⟨fun e => (by cases e), fun e => absurd e HNR.out⟩).mono ?_; rintro e w2 ⟨rfl, c2⟩; have C2 : Hid (Below w.heap.size w w2) := bel_tr C1.out c2; clear c2)
    go_ret
    exact ⟨rfl, C2.out⟩

theorem walk (a0 : Option Addr) (b0 off0 cap0 : Nat) (ss0 : List NR) (W : World) (h0 : Nds W a0 b0 off0 ss0) :
    Calls Try.prog 7 #[.slice a0 (ss0.map (·.1)).length cap0] W fun e w' => e = .returned (.bool true) ∧ Below W.heap.size W w' :=
  core W ⟨b0, off0, ss0, rfl, rfl, h0⟩

set_option maxRecDepth 100000 in
theorem lifted (os : Os) (started : os.Started) (H : Type) (enc : TypeId × Value → H) :
    ReturnsInHanded {} Try.checked os 7 .any (Rows.treeListsSpec.pre6 enc Try.prog Try.f7 Rows.treeListsRow.domain false) (Rows.treeListsSpec.post enc Try.prog Try.f7 false true false false) := by
  refine returnsInHanded_of_change (C := Try.checked) own started (by kernel_rfl) Try.func7
    (ChangeSpec.witness6 (enc := enc) (C := Try.checked) false ⟨#[], #[.slice none 0 0], []⟩ 8 (by kernel_rfl) (by kernel_rfl) (by kernel_rfl) (by kernel_rfl)) ?_
  intro W base args ds gs before hval0 hW hcnd _
  have hval : ∀ (j : Nat) t v, Try.f7.params[j]? = some t → args[j]? = some v → Value.okWide Try.prog W .any base t v := hval0
  have hW' := hW
  obtain ⟨p, q, hA0, hV, rfl, hfz, hnd⟩ := hW
  have hA : DataW.TrodAll enc Try.prog W 0 (fun _ => true) true Try.f7.params.toList args.toList ds p := hA0
  rw [Try.params7] at hA hval
  obtain ⟨v0, vs0, d0, ds0, p0, q0, hargs, rfl, rfl, h0, r0⟩ := trodAll_cons hA
  obtain ⟨rfl, rfl, rfl⟩ := trodAll_nil r0
  obtain rfl : args = #[v0] := by cases args; simp_all
  obtain ⟨rfl, rfl⟩ := trodVars_none hV
  obtain ⟨a0, len0, cap0, rfl⟩ := okWide_slice Try.underlying22 (hval 0 22 v0 rfl rfl)
  have k0 := h0
  have lt0 : ∀ x ∈ p0, x.block < W.heap.size := by obtain ⟨m, hm⟩ := k0; exact DataW.trod_lt m _ _ _ hm
  obtain ⟨b0, off0, ss0, rfl, w0, n0⟩ := open_nodes h0
  clear hA0 hval0
  refine (walk a0 b0 off0 cap0 ss0 W w0).mono fun e W' ⟨he, bel⟩ => ?_
  subst he
  exact ⟨_, rfl, _, _, _, [], _, [], hW', trodAll_mk1 (shut_bool Try.underlying4 _), (trodAll_cons_mk (Below.trod laidOut (by kernel_rfl) (of_decide_eq_true (by kernel_rfl)) k0 bel lt0) trodAll_mk0), rfl, bel.frame _, fun h => by cases h⟩

theorem over : Rows.treeListsRow.holds Try.pinned (OpenSpec.ofChange Rows.treeListsSpec) :=
  OpenClaim.holds_of_wide 7 Try.f7 rfl rfl rfl rfl rfl rfl rfl ⟨rfl, rfl, rfl, rfl, rfl⟩ rfl rfl rfl rfl rfl (by kernel_rfl) Try.func7 (by kernel_rfl)
    (of_decide_eq_true (by kernel_rfl)) (by unfold Func.isWrapper; first | (rw [if_pos (by decide +kernel)]; kernel_rfl) | (rw [if_neg (by decide +kernel)]; exact ⟨rfl, rfl⟩))
    (fun os started H enc _ => lifted os started H enc)
end Go.Proofs.Ytdcmhbodjmajcaa.treeLists

namespace Go.Proofs.Ytdcmhbodjmajcaa
/-- The statement. -/
theorem treeLists_holds : Rows.TreeListsSaid := treeLists.over
#print axioms treeLists_holds
end Go.Proofs.Ytdcmhbodjmajcaa
