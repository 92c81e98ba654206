/- The contract of the reference's Committed. -/
import Derived.Test.YtapnjgmihfmapaaChsR1
namespace Go.Proofs.Ytapnjgmihfmapaa.Chs
open Go.RowKit Go.Proofs.Ytapnjgmihfmapaa Go.Proofs.Ytapnjgmihfmapaa.Lgg
set_option linter.unusedVariables false

set_option maxRecDepth 100000 in
set_option maxHeartbeats 8000000 in
theorem refCommitted_val {O O2 : Nat → Prop} {w : World} {a : Option Addr} {xs : List Ls} (h : LsAt O O2 w a xs) (n c : Nat) (hn : xs.length = n) (hb : n ≤ 1000000) (need : Int) (hneed : In64 need) (N : Nat) (hN : (max need 1).toNat = N) (es : List En) (hes : comT xs N = es) (m : Nat) (hm : es.length = m) :
    Calls Try.prog 8 #[.slice a n c, .int .i64 need] w fun e w' => EnsR w.heap.size es m e w' ∧ Below w.heap.size w w' := by
  have hN1 : 1 ≤ N := by omega
  have hmax : max need 1 = (N : Int) := by omega
  have hmax2 : max (1 : Int) need = (N : Int) := by omega
  unfold In64 at hneed
  have hNb : (N : Int) ≤ 9223372036854775807 := by omega
  have CM : Hid (∀ W, Below w.heap.size w W → ∀ e k F, kN xs e k = F → Calls Try.prog 18 #[.slice a n c, .int .i64 e, .int .i64 (k : Nat)] W fun e w' => e = .returned (.int .i64 (F : Nat)) ∧ w' = W) := fun W hb' e k F hF => many_val (h.below hb') n c hn hb e k F hF
  have HL : Hid (Lie lsC O w a xs) := h.row
  have HN : Hid (xs.length = n) := hn
  have HA : Hid (LsAt O O2 w a xs) := h
  have HES : Hid (comT xs N = es) := hes
  have HM : Hid (es.length = m) := hm
  clear h hn hes hm hN
  go_enter Try.func8, Try.ntmps8
  go_wp2
  go_loopw [5, 6] (fun v5 v6 wr => ∃ i : Nat, i ≤ n ∧ v6 = .int .i64 i ∧ v5 = .int .i64 (rbI xs N i) ∧ Below w.heap.size w wr) (fun _ v6 _ => n - (intOf v6).toNat)
  case atStart => exact ⟨0, by omega, rfl, rfl, Below.refl _ _⟩
  case round =>
    obtain ⟨i, hi, rfl, rfl, hbl⟩ := hrel
    have HB : Hid (Below w.heap.size w wr) := hbl
    by_cases hlt : i < n
    · have hix : i < xs.length := by rw [HN.out]; exact hlt
      obtain ⟨b, off, rfl, hat⟩ := Lie.all wideL (HL.out.below hbl) (by omega)
      have e0 : wr.cell? ⟨b, off + i * 2, none⟩ = some (.int .i64 xs[i].ep) := hat i hix 0 _ rfl
      obtain ⟨F, hF⟩ : ∃ F, kN xs xs[i].ep 0 = F := ⟨_, rfl⟩
      have hFn : F ≤ n := by have := kN_le xs xs[i].ep 0; rw [HN.out] at this; omega
      have CC : Hid (∀ dd os, Calls Try.prog 18 #[.slice (some ⟨b, off, none⟩) n c, .int .i64 xs[i].ep, .int .i64 0] (Sort.grow (redrawn wr dd) os) fun e w' => e = .returned (.int .i64 (F : Nat)) ∧ Below (Sort.grow (redrawn wr dd) os).heap.size (Sort.grow (redrawn wr dd) os) w') := fun dd os => (CM.out _ (bel_tr hbl (below_regrown wr dd os)) xs[i].ep 0 F hF).mono fun e w' ⟨h1, h2⟩ => ⟨h1, by rw [h2]; exact Below.refl _ _⟩
      have r0 : ∀ dd os, (Sort.grow (redrawn wr dd) os).cell? ⟨b, off + i * 2, none⟩ = some (.int .i64 xs[i].ep) := fun dd os => cell_regrown e0 dd os
      have hlo := rb_lt xs N i
      by_cases h1 : N ≤ F
      · have h1b : decide ((F : Int) ≥ (N : Int)) = true := decide_eq_true (by omega)
        by_cases hneg : rbI xs N i < 0
        · have HX : Hid (rbI xs N (i + 1) = (i : Int)) := rb_yes0 hix (by rw [hF]; exact h1) hneg
          have hm1 : rbI xs N i = -1 := by omega
          rw [hm1]
          clear hat hbl hlo hneg hm1 hF
          generalize xs[i].ep = ex at *
          go_wp2
          refine wp_region_quiet_below (by kernel_rfl) (by kernel_rfl) ?_
          repeat (first | go_big_quiet_step (first | exact Calls.regrown_of (CC.out _ _) | fail) | quiet_step (first | exact Calls.regrown_of (CC.out _ _) | fail))
          refine wpQuiet_nil ?_
          intro _ hw'
          obtain ⟨⟨dq, osq⟩, hw''⟩ := hw'
          subst hw''
          go_wp2
          go_roundw
          case rel => exact ⟨i + 1, by omega, by go_num, by rw [HX.out], bel_tr HB.out (below_regrown _ dq osq)⟩
          case measure => simp [intOf]; omega
        · obtain ⟨k, hk⟩ : ∃ k : Nat, rbI xs N i = (k : Int) := ⟨(rbI xs N i).toNat, by omega⟩
          have hkn : k < n := by omega
          have hkx : k < xs.length := by rw [HN.out]; exact hkn
          have f0 : wr.cell? ⟨b, off + k * 2, none⟩ = some (.int .i64 xs[k].ep) := hat k hkx 0 _ rfl
          have s0 : ∀ dd os, (Sort.grow (redrawn wr dd) os).cell? ⟨b, off + k * 2, none⟩ = some (.int .i64 xs[k].ep) := fun dd os => cell_regrown f0 dd os
          have hk0 : decide ((k : Int) < 0) = false := decide_eq_false (by omega)
          have HY : Hid (xs[k].ep < xs[i].ep → rbI xs N (i + 1) = (i : Int)) := fun h3 => rb_yes hix hkx (by rw [hF]; exact h1) hk h3
          have HZ : Hid (¬ xs[k].ep < xs[i].ep → rbI xs N (i + 1) = (k : Int)) := fun h3 => rb_no2 hix hkx hk h3
          rw [hk]
          clear hat hbl hlo hneg hk hF
          generalize xs[i].ep = ex at *
          generalize xs[k].ep = ek at *
          by_cases h3 : ek < ex
          · have h3b : decide (ex > ek) = true := decide_eq_true h3
            have HX := HY.out h3
            have HX2 : Hid _ := HX
            clear HY HZ HX
            go_wp2
            refine wp_region_quiet_below (by kernel_rfl) (by kernel_rfl) ?_
            repeat (first | go_big_quiet_step (first | exact Calls.regrown_of (CC.out _ _) | fail) | quiet_step (first | exact Calls.regrown_of (CC.out _ _) | fail))
            refine wpQuiet_nil ?_
            intro _ hw'
            obtain ⟨⟨dq, osq⟩, hw''⟩ := hw'
            subst hw''
            go_wp2
            go_roundw
            case rel => exact ⟨i + 1, by omega, by go_num, by rw [HX2.out], bel_tr HB.out (below_regrown _ dq osq)⟩
            case measure => simp [intOf]; omega
          · have h3b : decide (ex > ek) = false := decide_eq_false h3
            have HX := HZ.out h3
            have HX2 : Hid _ := HX
            clear HY HZ HX
            go_wp2
            refine wp_region_quiet_below (by kernel_rfl) (by kernel_rfl) ?_
            repeat (first | go_big_quiet_step (first | exact Calls.regrown_of (CC.out _ _) | fail) | quiet_step (first | exact Calls.regrown_of (CC.out _ _) | fail))
            refine wpQuiet_nil ?_
            intro _ hw'
            obtain ⟨⟨dq, osq⟩, hw''⟩ := hw'
            subst hw''
            go_wp2
            go_roundw
            case rel => exact ⟨i + 1, by omega, by go_num, by rw [HX2.out], bel_tr HB.out (below_regrown _ dq osq)⟩
            case measure => simp [intOf]; omega
      · have h1b : decide ((F : Int) ≥ (N : Int)) = false := decide_eq_false (by omega)
        have HX : Hid (rbI xs N (i + 1) = rbI xs N i) := rb_no1 hix (by rw [hF]; exact h1)
        clear hat hbl hF
        generalize xs[i].ep = ex at *
        generalize rbI xs N i = rb at *
        go_wp2
        refine wp_region_quiet_below (by kernel_rfl) (by kernel_rfl) ?_
        repeat (first | go_big_quiet_step (first | exact Calls.regrown_of (CC.out _ _) | fail) | quiet_step (first | exact Calls.regrown_of (CC.out _ _) | fail))
        refine wpQuiet_nil ?_
        intro _ hw'
        obtain ⟨⟨dq, osq⟩, hw''⟩ := hw'
        subst hw''
        go_wp2
        go_roundw
        case rel => exact ⟨i + 1, by omega, by go_num, by rw [HX.out], bel_tr HB.out (below_regrown _ dq osq)⟩
        case measure => simp [intOf]; omega
    · obtain rfl : i = n := by omega
      have hlo := rb_lt xs N i
      clear hlt hbl
      by_cases hneg : rbI xs N i < 0
      · have hm1 : rbI xs N i = -1 := by omega
        have hes := HES.out
        rw [com_none (rb_none hN1 (by rw [HN.out]; exact hneg))] at hes
        subst hes
        obtain rfl : 0 = m := HM.out
        rw [hm1]
        clear hlo hneg hm1 HES HM
        go_wp2
        go_ret
        exact ⟨⟨none, 0, none, rfl, .nil rfl rfl rfl⟩, HB.out⟩
      · obtain ⟨k, hk⟩ : ∃ k : Nat, rbI xs N i = (k : Int) := ⟨(rbI xs N i).toNat, by omega⟩
        have hkn : k < i := by omega
        have hkx : k < xs.length := by rw [HN.out]; exact hkn
        have ht := rb_some hN1 hkx (by rw [HN.out]; exact hk)
        obtain ⟨q, hq, hq1, hq2, hq3, hq4⟩ := com_some hN1 ht
        have hKI := fun j => kth_is hN1 hq4 j
        obtain ⟨K, hK⟩ : ∃ K, kth xs xs[k].ep N = K := ⟨_, rfl⟩
        rw [hK] at hq1 hq2 hq3
        have hKI2 : ∀ j, j ≤ K ↔ N ≤ kN xs xs[k].ep j := fun j => by rw [← hK]; exact hKI j
        have hKe : K ≤ xs[q].es.length := by
          unfold okL at hq1
          simp only [Bool.and_eq_true, decide_eq_true_eq] at hq1
          exact hq1.2
        have hmK : K = m := by rw [← HM.out, ← HES.out, hq3, List.length_take]; omega
        have hkb : ∀ j, kN xs xs[k].ep j ≤ 1000000 := fun j => by have := kN_le xs xs[k].ep j; rw [HN.out] at this; omega
        obtain ⟨hr1, hr2⟩ := HA.out.room _ (List.getElem_mem hq)
        have hX : Lie enC O2 w xs[q].a xs[q].es := HA.out.each _ (List.getElem_mem hq)
        have hlid : xs[q].es.length ≤ maxLen := hX.lid
        have SW : Hid (∀ W, Below w.heap.size w W → Src Try.prog 2 24 (.slice xs[q].a K xs[q].c) K (rowC enC es) W) := fun W hb' => by
          have := Lie.srcT Try.underlying24 wideN (hX.below hb') K hKe xs[q].c
          rw [← hq3, HES.out] at this
          exact this
        have hkneg : decide ((k : Int) < 0) = false := decide_eq_false (by omega)
        have HK2 : Hid (∀ j F, kN xs xs[k].ep (j + 1) = F → (N ≤ F ↔ j + 1 ≤ K)) := fun j F hF => by rw [← hF]; exact (hKI2 (j + 1)).symm
        have HKB : Hid (∀ j F, kN xs xs[k].ep (j + 1) = F → F ≤ 1000000) := fun j F hF => by rw [← hF]; exact hkb _
        have HQ2 : Hid (∀ j (hj : j < q), okL xs[k].ep K (xs[j]'(by omega)) = false) := hq2
        have hq1e : xs[q].ep = xs[k].ep := by
          unfold okL at hq1
          simp only [Bool.and_eq_true, decide_eq_true_eq] at hq1
          exact hq1.1
        have HQE : Hid (xs[q].ep = xs[k].ep) := hq1e
        have HQK : Hid (K ≤ xs[q].es.length) := hKe
        have HCX : Hid (K ≤ xs[q].c) := by show K ≤ xs[q].c; omega
        have HLID : Hid (0 + K ≤ maxLen) := by show 0 + K ≤ maxLen; omega
        have HLIE : Hid (xs[q].es.length ≤ maxLen) := hlid
        have HKB2 : Hid ((0 + K) * 24 ≤ 140737488355328) := by show (0 + K) * 24 ≤ 140737488355328; omega
        have hKm : K ≤ 10000000000000 := by omega
        have hqi : q < i := by rw [← HN.out]; exact hq
        obtain ⟨ti, hi1, hi2, hi3, hi4⟩ := enRow
        have CC2 : Hid (∀ W, Below w.heap.size w W → ∀ j F, kN xs xs[k].ep (j + 1) = F → Calls Try.prog 18 #[.slice a i c, .int .i64 xs[k].ep, .int .i64 ((j : Int) + 1)] W fun e w' => e = .returned (.int .i64 (F : Nat)) ∧ w' = W) := fun W hb' j F hF => CM.out W hb' xs[k].ep (j + 1) F hF
        have HAT : Hid (∀ W, Below w.heap.size w W → ∃ b off, a = some ⟨b, off, none⟩ ∧ ∀ (i : Nat) (hi : i < xs.length), W.cell? ⟨b, off + i * 2, none⟩ = some (.int .i64 xs[i].ep) ∧ W.cell? ⟨b, off + i * 2 + 1, none⟩ = some (.slice xs[i].a xs[i].es.length xs[i].c)) := fun W hb' => by
          obtain ⟨b, off, ha, hat⟩ := Lie.all wideL (HL.out.below hb') (by omega)
          exact ⟨b, off, ha, fun i hi => ⟨hat i hi 0 _ rfl, hat i hi 1 _ rfl⟩⟩
        obtain ⟨b, off, rfl, hat0⟩ := HAT.out _ HB.out
        have f0 := (hat0 k hkx).1
        rw [hk]
        subst hmK
        clear hq1 hq2 hq3 hq4 hKI hKI2 hkb hr1 hr2 hlid hX hK hk hlo hneg ht hat0 hq1e hKe CM HA HL HES HM
        go_wp2
        rename World => wo
        go_loopw [7] (fun v7 wr => ∃ j : Nat, j ≤ K ∧ v7 = .int .i64 j ∧ wr = wo) (fun v7 _ => K - (intOf v7).toNat)
        case atStart => exact ⟨0, by omega, rfl, by first | rfl | trivial⟩
        case round =>
          obtain ⟨j, hj, rfl, rfl⟩ := hrel
          obtain ⟨F, hF⟩ : ∃ F, kN xs xs[k].ep (j + 1) = F := ⟨_, rfl⟩
          have hiff := HK2.out j F hF
          have hFb := HKB.out j F hF
          have CJ := CC2.out _ HB.out j F hF
          clear hF
          by_cases hlt : N ≤ F
          · have hj2 : j + 1 ≤ K := hiff.1 hlt
            have h1b : decide ((F : Int) ≥ (N : Int)) = true := decide_eq_true (by omega)
            clear hiff
            generalize xs[k].ep = ek at *
            go_wp2_with (go_at_call 18; refine CJ.mono ?_; rintro e w2 ⟨rfl, rfl⟩)
            go_roundw
            case rel => exact ⟨j + 1, by omega, by go_num, by first | rfl | trivial⟩
            case measure => simp [intOf]; omega
          · have hjK : j = K := by
              have : ¬ j + 1 ≤ K := fun e => hlt (hiff.2 e)
              omega
            subst hjK
            have h1b : decide ((F : Int) ≥ (N : Int)) = false := decide_eq_false (by omega)
            clear hiff
            go_wp2_with (go_at_call 18; refine CJ.mono ?_; rintro e w2 ⟨rfl, rfl⟩)
            clear f0 CJ
            rename World => wp
            go_loopw [8] (fun v8 wr => ∃ t : Nat, t ≤ q ∧ v8 = .int .i64 t ∧ Below w.heap.size w wr) (fun v8 _ => q + 1 - (intOf v8).toNat)
            case atStart => exact ⟨0, by omega, rfl, HB.out⟩
            case round =>
              obtain ⟨t, ht, rfl, hbl⟩ := hrel
              have HB3 : Hid (Below w.heap.size w wr) := hbl
              have htx : t < xs.length := by omega
              have hti : t < i := by omega
              obtain ⟨b2, off2, hab, hat⟩ := HAT.out _ hbl
              simp only [Option.some.injEq, Addr.mk.injEq, and_true] at hab
              obtain ⟨rfl, rfl⟩ := hab
              obtain ⟨e0, e1⟩ := hat t htx
              have f0 := (hat k hkx).1
              by_cases htq : t < q
              · have hno := HQ2.out t htq
                unfold okL at hno
                clear hat hbl
                generalize xs[t] = x at *
                generalize xs[k].ep = ek at *
                obtain ⟨ex, ax, cx, sx⟩ := x
                simp only at e0 e1 hno
                generalize sx.length = nx at *
                by_cases h2 : ex = ek
                · subst h2
                  have h3 : ¬ j ≤ nx := by
                    intro h; simp [h] at hno
                  have h3b : decide ((nx : Int) ≥ (j : Int)) = false := decide_eq_false (by omega)
                  clear hno
                  go_wp2
                  go_quiet (fail)
                  go_wp2
                  go_roundw
                  case rel => exact ⟨t + 1, by omega, by go_num, bel_tr HB3.out (bel_dr _ _)⟩
                  case measure => simp [intOf]; omega
                · have h2b : decide (ex = ek) = false := decide_eq_false h2
                  have h2c : (ex == ek) = false := by simpa using h2
                  clear hno
                  go_wp2
                  go_quiet (fail)
                  go_wp2
                  go_roundw
                  case rel => exact ⟨t + 1, by omega, by go_num, bel_tr HB3.out (bel_dr _ _)⟩
                  case measure => simp [intOf]; omega
              · obtain rfl : t = q := by omega
                have hqe := HQE.out
                have hqk := HQK.out
                have hcx := HCX.out
                have HSW : Hid _ := fun W hb => SW.out W hb
                clear hat hbl HQ2 SW
                have hlie := HLIE.out
                rw [hqe] at e0
                generalize xs[k].ep = ek at *
                generalize xs[t].a = ax at *
                generalize xs[t].c = cx at *
                generalize xs[t].es.length = nx at *
                have h3b : decide ((nx : Int) ≥ (j : Int)) = true := decide_eq_true (by omega)
                unfold maxLen at hlie
                go_wp2
                go_quiet (fail)
                go_wp2_with (at_builtin; refine wpList_append_cel _ rfl _ _ 24 24 rfl 28 ti _ 2 24 Try.underlying24 hi1 hi2 hi3 hi4 rfl (O := fun z => w.heap.size ≤ z) _ 0 [] none rfl (.nil rfl rfl rfl) _ j (rowC enC es) rfl (HSW.out _ (bel_tr HB3.out (bel_dr _ _))) HLID.out HKB2.out ?_; intro a5 c5 w5 g5 hC5 hS5 hg5; rw [Nat.zero_add, List.nil_append] at hC5; rw [Nat.zero_add]; have A5 : Hid (Cel (fun k => w.heap.size ≤ k) w5 2 (.slice a5 j c5) j (rowC enC es) g5) := hC5.stay (Nat.le_refl _) (fun _ _ => rfl) (fun k hk => hk.elim id (fun e => Nat.le_trans (bel_tr HB3.out (bel_dr _ _)).size e.1)); have B5 : Hid (Below w.heap.size w w5) := bel_tr (bel_tr HB3.out (bel_dr _ _)) (hS5.below (Nat.le_refl _) (fun k hk => by cases hk)); clear hC5 hS5 hg5)
                go_ret
                exact ⟨⟨a5, c5, g5, rfl, A5.out⟩, B5.out⟩

end Go.Proofs.Ytapnjgmihfmapaa.Chs
