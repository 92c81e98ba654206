/- QuotaCounts: for every list of nodes: the statement's function returns true; nothing that was there is changed. No condition. -/
import Derived.Test.YtlfehfajaelmlaaQuotaL
import Derived.Test.YtlfehfajaelmlaaQuotaP
import Derived.Test.YtlfehfajaelmlaaTreeOpen
namespace Go.Proofs.Ytlfehfajaelmlaa.quotaCounts
open Go.ChangeShapes Go.WideShapes Go.ChangeAt Go.RowKit
set_option linter.unusedVariables false

theorem own : ownKnob Try.prog.godebug = none := by kernel_rfl

/-- What is added to texts. -/
theorem add_is (a b : ByteArray) (ha : a.size ≤ 1000) (hb : b.size ≤ 1000) : ∃ Q : ByteArray, a ++ b = Q ∧ (∀ w : World, (Op.stringOp .add a b).run Try.prog w = .ok (.string Q) w) ∧ Q.size = a.size + b.size :=
  ⟨a ++ b, rfl, fun w => run_string_add_sum w a b (by omega), ByteArray.size_append⟩

def S (xs : NS) (q : ByteArray) (l : List ByteArray) : Nat := (l.map (fun m => cntL xs (kid q m))).sum
theorem S_next (xs : NS) (q : ByteArray) (l : List ByteArray) (i : Nat) (hi : i < l.length) : S xs q (l.take (i + 1)) = S xs q (l.take i) + cntL xs (kid q l[i]) := by
  unfold S
  rw [List.take_succ_eq_append_getElem hi, List.map_append, List.sum_append]
  simp
theorem S_le (xs : NS) (q : ByteArray) (l : List ByteArray) (i : Nat) : S xs q (l.take i) ≤ S xs q l := by
  unfold S
  conv => rhs; rw [← List.take_append_drop i l, List.map_append, List.sum_append]
  omega

set_option maxRecDepth 100000 in
set_option maxHeartbeats 4000000 in
theorem core {a : Option Addr} {n c : Nat} {xs : NS} (w : World) (h : NL w a n xs) :
    Calls Try.prog 5 #[.slice a n c] w fun e w' => e = .returned (.bool true) ∧ Below w.heap.size w w' := by
  have CR : Hid (∀ W u, Below w.heap.size w W → (u = true ↔ Right xs) → Calls Try.prog 16 #[.slice a n c] W fun e w' => e = .returned (.bool u) ∧ Below W.heap.size W w') := fun W u hb hu => right_val (h.below hb) u hu
  by_cases hR : Right xs
  · have HLEN : Hid (xs.length = n) := by obtain ⟨_, _, _, _, k2, _⟩ := h.ex; exact k2
    have hn60 : n ≤ 60 := by rw [← HLEN.out]; exact hR.few
    have hn0 : 0 < n := by rw [← HLEN.out]; exact hR.pos
    have hut : true = true ↔ Right xs := ⟨fun _ => hR, fun _ => rfl⟩
    obtain ⟨b, off, ps, k1, k2, k3⟩ := h.ex
    have hpl : ps.length = n := by rw [← k2, ← k1, List.length_map]
    obtain rfl := k3.addr (by omega)
    have HAT : Hid (∀ W i (hi : i < xs.length), Below w.heap.size w W → W.cell? ⟨b, off + i * 5, none⟩ = some (.string xs[i].path) ∧ W.cell? ⟨b, off + i * 5 + 2, none⟩ = some (.int .i64 xs[i].quota)) := fun W i hi hb => by
      have hip : i < ps.length := by omega
      obtain ⟨e0, e1, e2, _⟩ := (k3.below hb).at hip
      have e : ps[i].1 = xs[i] := by subst k1; simp
      rw [e] at e0 e2
      exact ⟨e0, e2⟩
    have CL : Hid (∀ W p E, Below w.heap.size w W → p.size ≤ 120 → ListE xs p E → Calls Try.prog 19 #[.slice (some ⟨b, off, none⟩) n c, .string p] W fun e w' => NamesR (listL xs p E) E e w' ∧ Below W.heap.size W w') := fun W p E hb hs hE => list_val (h.below hb) p (by unfold maxLen; omega) E hE
    have CF : Hid (∀ W p I, Below w.heap.size w W → findI xs p = I → Calls Try.prog 17 #[.slice (some ⟨b, off, none⟩) n c, .string p] W fun e w' => e = .returned (.int .i64 I) ∧ Below W.heap.size W w') := fun W p I hb hI => find_val (h.below hb) p I hI
    have CC : Hid (∀ W p F, Below w.heap.size w W → p.size ≤ 1000 → cntL xs p = F → Calls Try.prog 12 #[.slice (some ⟨b, off, none⟩) n c, .string p] W fun e w' => e = .returned (.int .i64 (F : Int)) ∧ Below W.heap.size W w') := fun W p F hb hs hF => count_val (h.below hb) true hut p (by unfold maxLen; omega) F hF
    obtain ⟨ys, hy⟩ : ∃ ys, overL xs = ys := ⟨_, rfl⟩
    obtain ⟨m, hm⟩ : ∃ m, ys.length = m := ⟨_, rfl⟩
    have hm60 : m ≤ 60 := by
      have : (overL xs).length ≤ xs.length := by unfold overL; rw [List.length_map]; exact List.length_filter_le _ _
      rw [hy, hm, HLEN.out] at this; omega
    have CO : Hid (∀ W, Below w.heap.size w W → Calls Try.prog 10 #[.slice (some ⟨b, off, none⟩) n c] W fun e w' => TextsR W.heap.size ys m e w' ∧ Below W.heap.size W w') := fun W hb => over_val (h.below hb) true hut ys hy m hm
    have HOV : Hid (∀ p ∈ ys, ∃ i, ∃ hi : i < xs.length, findI xs p = (i : Int) ∧ xs[i].path = p ∧ 0 ≤ xs[i].quota ∧ xs[i].quota < (cntL xs p : Int)) := fun p hp => over_is hR (by rw [hy]; exact hp)
    have HR : Hid (Right xs) := hR
    have HMM : Hid (ys.length = m) := hm
    have HROOT : Hid (cntL xs rootP = n) := (cnt_root hR).trans HLEN.out
    have HCLE : Hid (∀ p, cntL xs p ≤ 60) := fun p => by have := cnt_le xs p; have := HLEN.out; show cntL xs p ≤ 60; omega
    clear h hR k1 k2 k3 hpl hy hm hut
    go_enter Try.func5, Try.ntmps5
    go_wp2_with fail
    refine (examples_val _).mono ?_
    rintro e w1 ⟨rfl, c1⟩
    have C1 : Hid (Below w.heap.size w w1) := c1
    clear c1
    go_wp2_with (refine (CR.out _ true C1.out ⟨fun _ => HR.out, fun _ => rfl⟩).mono ?_; rintro e w2 ⟨rfl, c2⟩; have C2 : Hid (Below w.heap.size w w2) := bel_tr C1.out c2; clear c2)
    go_loopw [4, 5, 6, 7, 8, 9] (fun v4 _ _ _ _ _ wr => ∃ i : Nat, i ≤ n ∧ v4 = .int .i64 i ∧ Below w.heap.size w wr) (fun v4 _ _ _ _ _ _ => n - (intOf v4).toNat)
    case atStart => exact ⟨0, by omega, rfl, C2.out⟩
    case round =>
      obtain ⟨i, hi, rfl, hb⟩ := hrel
      rename World => wo
      have HB : Hid (Below w.heap.size w wo) := hb
      by_cases hlt : i < n
      · have hix : i < xs.length := by rw [HLEN.out]; exact hlt
        have e0 := (HAT.out wo i hix hb).1
        have hsp := fits_path (HR.out.fit _ (List.getElem_mem hix))
        have hq120 : xs[i].path.size ≤ 120 := by rw [splitX_ok hsp]; exact pathT_small (split_ok hsp).1
        obtain ⟨E, hE⟩ := listE_any xs xs[i].path
        have hcn := cnt_names HR.out (List.getElem_mem hix) hE
        have HNS : Hid (∀ m ∈ listL xs xs[i].path E, m.size ≤ 20) := fun m hm => (kid_small HR.out (List.getElem_mem hix) hm).1
        have HCELL : Hid (∀ W, Below w.heap.size w W → W.cell? ⟨b, off + i * 5, none⟩ = some (.string xs[i].path)) := fun W hb => (HAT.out W i hix hb).1
        have HE : Hid _ := hE
        obtain ⟨ns, hns⟩ : ∃ ns, listL xs xs[i].path E = ns := ⟨_, rfl⟩
        rw [hns] at HNS hcn
        have HLL : Hid (listL xs xs[i].path E = ns) := hns
        generalize xs[i].path = q at *
        have hcn2 : cntL xs q = 1 + S xs q ns := hcn
        have HCN : Hid _ := hcn2
        clear hb hsp hE hcn hcn2 hns
        go_wp2_with fail
        refine (CL.out _ q E HB.out hq120 HE.out).mono ?_
        rintro e w3 ⟨⟨la, lb, ln, lc, rfl, hln, hS⟩, c3⟩
        rw [HLL.out] at hln hS
        have B3 : Hid (Below w.heap.size w w3) := bel_tr HB.out c3
        have HS3 : Hid (Strs w3 la lb 0 ns) := hS
        have HLN : Hid (ns.length = ln) := hln
        have hlid := hS.len
        unfold maxLen at hlid
        rw [hln] at hlid
        clear hS hln c3 e0
        go_wp2
        go_loopw [5, 8, 9] (fun v5 v8 _ wr => ∃ k : Nat, k ≤ ln ∧ v8 = .int .i64 k ∧ v5 = .int .i64 ((1 + S xs q (ns.take k) : Nat) : Int) ∧ Below w3.heap.size w3 wr) (fun _ v8 _ _ => ln - (intOf v8).toNat)
        case atStart => exact ⟨0, by omega, rfl, rfl, Below.refl _ _⟩
        case round =>
          obtain ⟨k, hk, rfl, rfl, hbk⟩ := hrel
          have HBK : Hid (Below w3.heap.size w3 wr) := hbk
          have hBW : Below w.heap.size w wr := bel_tr B3.out hbk
          have HBW : Hid (Below w.heap.size w wr) := hBW
          have g0 := HCELL.out wr hBW
          have hG60 : 1 + S xs q (ns.take k) ≤ 60 := by
            have h1 := S_le xs q ns k
            have h2 := HCN.out
            have h3 := HCLE.out q
            omega
          by_cases hkl : k < ln
          · have hkn : k < ns.length := by rw [HLN.out]; exact hkl
            have hSr := HS3.out.below hbk
            obtain rfl := hSr.addr (by omega)
            have s0 := hSr.cell k hkn
            rw [Nat.zero_add] at s0
            have hsz := HNS.out _ (List.getElem_mem hkn)
            have hnx := S_next xs q ns k hkn
            have h60 : 1 + S xs q (ns.take (k + 1)) ≤ 60 := by
              have h1 := S_le xs q ns (k + 1)
              have h2 := HCN.out
              have h3 := HCLE.out q
              omega
            clear hSr hbk hBW
            generalize ns[k] = mm at *
            obtain ⟨F, hF⟩ : ∃ F, cntL xs (kid q mm) = F := ⟨_, rfl⟩
            rw [hF] at hnx
            generalize hG : S xs q (ns.take k) = G at *
            generalize hG2 : S xs q (ns.take (k + 1)) = G2 at *
            subst hnx
            obtain ⟨Q1, hQ1, hq1, hz1⟩ := add_is q ⟨#[47]⟩ (by omega) (by decide)
            obtain ⟨P0, hP0, hp0, hz0⟩ := add_is Q1 mm (by rw [hz1]; show q.size + 1 ≤ 1000; omega) (by omega)
            obtain ⟨P2, hP2, hp2, hz2⟩ := add_is ⟨#[47]⟩ mm (by decide) (by omega)
            have e47 := root_eq q
            have S0 : Hid _ := s0
            have G0 : Hid _ := g0
            have HG2 : Hid (S xs q (ns.take (k + 1)) = G + F) := hG2
            have hP0s : P0.size ≤ 1000 := by rw [hz0, hz1]; show q.size + 1 + mm.size ≤ 1000; omega
            have hP2s : P2.size ≤ 1000 := by rw [hz2]; show 1 + mm.size ≤ 1000; omega
            have HP0s : Hid _ := hP0s
            have HP2s : Hid _ := hP2s
            have HF : Hid _ := hF
            clear hG hG2 hz1 hz0 hz2 hF hP0s hP2s
            have r0 := fun dd os => cell_regrown g0 dd os
            have r1 := fun dd os => cell_regrown s0 dd os
            by_cases hr : q = rootP
            · rw [decide_eq_true hr] at e47
              have hkd : kid q mm = P2 := by rw [hr, kid_root, hP2]
              rw [hkd] at HF
              have CC2 : Hid (∀ W, Below wr.heap.size wr W → Calls Try.prog 12 #[.slice (some ⟨b, off, none⟩) n c, .string P2] W fun e w' => e = .returned (.int .i64 (F : Int)) ∧ Below W.heap.size W w') := fun W hW => CC.out W P2 F (bel_tr HBW.out hW) HP2s.out HF.out
              clear hQ1 hP0 hP2 hr hkd HCELL CL CR HAT
              go_wp2
              refine wp_region_quiet_below (by kernel_rfl) (by kernel_rfl) ?_
              repeat (first | go_big_quiet_step (fail) | quiet_step (fail))
              refine wpQuiet_nil ?_
              intro _ hw'
              obtain ⟨⟨dq, osq⟩, hw''⟩ := hw'
              subst hw''
              have B4 : Hid (Below wr.heap.size wr (Sort.grow (redrawn wr dq) osq)) := below_regrown wr dq osq
              clear r0 r1
              generalize Sort.grow (redrawn wr dq) osq = w4 at *
              have t0 := bel_cell B4.out G0.out
              have t1 := bel_cell B4.out S0.out
              go_wp2_with (go_at_call 12; refine (CC2.out _ B4.out).mono ?_; rintro e w5 ⟨rfl, c5⟩; have B5 : Hid (Below w4.heap.size w4 w5) := c5; clear c5)
              go_roundw
              case rel => exact ⟨k + 1, by omega, by go_num, by rw [HG2.out]; go_num, bel_tr HBK.out (bel_tr B4.out B5.out)⟩
              case measure => simp [intOf]; omega
            · rw [decide_eq_false hr] at e47
              have hkd : kid q mm = P0 := by rw [kid_not hr, ← hP0, ← hQ1]
              rw [hkd] at HF
              have CC2 : Hid (∀ W, Below wr.heap.size wr W → Calls Try.prog 12 #[.slice (some ⟨b, off, none⟩) n c, .string P0] W fun e w' => e = .returned (.int .i64 (F : Int)) ∧ Below W.heap.size W w') := fun W hW => CC.out W P0 F (bel_tr HBW.out hW) HP0s.out HF.out
              clear hQ1 hP0 hP2 hr hkd HCELL CL CR HAT
              go_wp2
              refine wp_region_quiet_below (by kernel_rfl) (by kernel_rfl) ?_
              repeat (first | go_big_quiet_step (fail) | quiet_step (fail))
              refine wpQuiet_nil ?_
              intro _ hw'
              obtain ⟨⟨dq, osq⟩, hw''⟩ := hw'
              subst hw''
              have B4 : Hid (Below wr.heap.size wr (Sort.grow (redrawn wr dq) osq)) := below_regrown wr dq osq
              clear r0 r1
              generalize Sort.grow (redrawn wr dq) osq = w4 at *
              have t0 := bel_cell B4.out G0.out
              have t1 := bel_cell B4.out S0.out
              go_wp2_with (go_at_call 12; refine (CC2.out _ B4.out).mono ?_; rintro e w5 ⟨rfl, c5⟩; have B5 : Hid (Below w4.heap.size w4 w5) := c5; clear c5)
              go_roundw
              case rel => exact ⟨k + 1, by omega, by go_num, by rw [HG2.out]; go_num, bel_tr HBK.out (bel_tr B4.out B5.out)⟩
              case measure => simp [intOf]; omega
          · obtain rfl : k = ln := by omega
            have hgd : decide ((k : Int) < (k : Int)) = false := decide_eq_false (by omega)
            have hG : 1 + S xs q (ns.take k) = cntL xs q := by rw [List.take_of_length_le (by rw [HLN.out]; omega)]; exact HCN.out.symm
            obtain ⟨G, hG0⟩ : ∃ G, cntL xs q = G := ⟨_, rfl⟩
            rw [hG, hG0] at hG60 ⊢
            have HG0 : Hid (cntL xs q = G) := hG0
            have C5 : Hid (∀ W, Below wr.heap.size wr W → Calls Try.prog 12 #[.slice (some ⟨b, off, none⟩) n c, .string q] W fun e w' => e = .returned (.int .i64 (G : Int)) ∧ Below W.heap.size W w') := fun W hW => CC.out W q G (bel_tr HBW.out hW) (by omega) HG0.out
            clear hkl hbk hBW hG hG0
            go_wp2_with (go_at_call 12; refine (C5.out _ (Below.refl _ _)).mono ?_; rintro e w4 ⟨rfl, c4⟩; have B4 : Hid (Below wr.heap.size wr w4) := c4; clear c4)
            go_roundw
            case rel => exact ⟨i + 1, by omega, by go_num, bel_tr HBW.out B4.out⟩
            case measure => simp [intOf]; omega
      · obtain rfl : i = n := by omega
        have hgd : decide ((i : Int) < (i : Int)) = false := decide_eq_false (by omega)
        clear hb hlt CL
        go_wp2_with (go_at_call 10; refine (CO.out _ HB.out).mono ?_; rintro e w3 ⟨⟨oa, oc, og, rfl, hC⟩, c3⟩; have B3 : Hid (Below w.heap.size w w3) := bel_tr HB.out c3; have HC : Hid _ := hC; clear c3 hC)
        clear CO
        have HYS : Hid (∀ p ∈ ys, p.size ≤ 120) := fun p hp => by
          obtain ⟨t, ht, _, hpt, _⟩ := HOV.out p hp
          have hsp := fits_path (HR.out.fit _ (List.getElem_mem ht))
          rw [← hpt, splitX_ok hsp]; exact pathT_small (split_ok hsp).1
        go_loopw [11, 12] (fun v11 _ wr => ∃ j : Nat, j ≤ m ∧ v11 = .int .i64 j ∧ Below w3.heap.size w3 wr) (fun v11 _ _ => m - (intOf v11).toNat)
        case atStart => exact ⟨0, by omega, rfl, Below.refl _ _⟩
        case round =>
          obtain ⟨j, hj, rfl, hbj⟩ := hrel
          have HBJ : Hid (Below w3.heap.size w3 wr) := hbj
          have hBW : Below w.heap.size w wr := bel_tr B3.out hbj
          have HBW : Hid (Below w.heap.size w wr) := hBW
          by_cases hjm : j < m
          · have hjy : j < ys.length := by rw [HMM.out]; exact hjm
            obtain ⟨ob, rfl, rfl, hce⟩ := (HC.out.below hbj).elem wideS hjy HMM.out
            have s0 := hce 0 _ rfl
            rw [Nat.mul_one, Nat.add_zero] at s0
            obtain ⟨t, ht, hI, hpt, hq0, hqF⟩ := HOV.out _ (List.getElem_mem hjy)
            have hps := HYS.out _ (List.getElem_mem hjy)
            have htn : t < i := by rw [← HLEN.out]; exact ht
            have HQC : Hid (∀ W, Below w.heap.size w W → W.cell? ⟨b, off + t * 5 + 2, none⟩ = some (.int .i64 xs[t].quota)) := fun W hb => (HAT.out W t ht hb).2
            clear hce hbj hBW hpt
            generalize ys[j] = p at *
            generalize xs[t].quota = q at *
            obtain ⟨F, hF⟩ : ∃ F, cntL xs p = F := ⟨_, rfl⟩
            have hF60 : F ≤ 60 := by rw [← hF]; exact HCLE.out p
            rw [hF] at hqF
            have HF : Hid _ := hF
            have HI : Hid _ := hI
            have S0 : Hid _ := s0
            have d0 : decide (q < 0) = false := decide_eq_false (by omega)
            have d1 : decide ((F : Int) ≤ q) = false := decide_eq_false (by omega)
            have d2 : decide ((t : Int) < 0) = false := decide_eq_false (by omega)
            clear hF hI
            go_wp2_with (go_at_call 17; refine (CF.out _ _ _ HBW.out HI.out).mono ?_; rintro e w4 ⟨rfl, c4⟩; have B4 : Hid (Below wr.heap.size wr w4) := c4; clear c4)
            have B4w : Hid (Below w.heap.size w w4) := bel_tr HBW.out B4.out
            have t0 := bel_cell B4.out S0.out
            have t1 := HQC.out _ B4w.out
            have r0 := fun dd os => cell_regrown t0 dd os
            have r1 := fun dd os => cell_regrown t1 dd os
            have C5 : Hid (∀ dd os, Calls Try.prog 12 #[.slice (some ⟨b, off, none⟩) i c, .string p] (Sort.grow (redrawn w4 dd) os) fun e w' => e = .returned (.int .i64 (F : Int)) ∧ Below (Sort.grow (redrawn w4 dd) os).heap.size (Sort.grow (redrawn w4 dd) os) w') := fun dd os => CC.out _ p F (bel_tr B4w.out (below_regrown w4 dd os)) (by omega) HF.out
            go_wp2
            refine wp_region_quiet_below (by kernel_rfl) (by kernel_rfl) ?_
            repeat (first | go_big_quiet_step (exact Calls.regrown_of (C5.out _ _)) | quiet_step (exact Calls.regrown_of (C5.out _ _)))
            refine wpQuiet_nil ?_
            intro _ hw'
            obtain ⟨⟨dr, osr⟩, hw''⟩ := hw'
            subst hw''
            have B5 : Hid (Below w4.heap.size w4 (Sort.grow (redrawn w4 dr) osr)) := below_regrown w4 dr osr
            clear C5 t0 t1 r0 r1
            generalize Sort.grow (redrawn w4 dr) osr = w5 at *
            go_wp2
            go_roundw
            case rel => exact ⟨j + 1, by omega, by go_num, bel_tr HBJ.out (bel_tr B4.out B5.out)⟩
            case measure => simp [intOf]; omega
          · obtain rfl : j = m := by omega
            have hgd2 : decide ((j : Int) < (j : Int)) = false := decide_eq_false (by omega)
            clear hjm hbj hBW
            go_wp2_with (go_at_call 12; refine (CC.out _ rootP i HBW.out (by decide) HROOT.out).mono ?_; rintro e w4 ⟨rfl, c4⟩; have B4 : Hid (Below w.heap.size w w4) := bel_tr HBW.out c4; clear c4)
            go_ret
            exact ⟨rfl, B4.out⟩
  · have HR : Hid (¬ Right xs) := hR
    have huf : false = true ↔ Right xs := ⟨fun e => (by cases e), fun e => absurd e hR⟩
    have CO : Hid (∀ W, Below w.heap.size w W → Calls Try.prog 10 #[.slice a n c] W fun e w' => TextsR W.heap.size [] 0 e w' ∧ Below W.heap.size W w') := fun W hb => over_val (h.below hb) false huf [] rfl 0 rfl
    have CC : Hid (∀ W, Below w.heap.size w W → Calls Try.prog 12 #[.slice a n c, .string rootP] W fun e w' => e = .returned (.int .i64 ((0 : Nat) : Int)) ∧ Below W.heap.size W w') := fun W hb => count_val (h.below hb) false huf rootP (lit_le _ (by decide)) 0 rfl
    have HU : Hid _ := huf
    clear h hR huf
    go_enter Try.func5, Try.ntmps5
    go_wp2_with fail
    refine (examples_val _).mono ?_
    rintro e w1 ⟨rfl, c1⟩
    have C1 : Hid (Below w.heap.size w w1) := c1
    clear c1
    go_wp2_with (first
      | (go_at_call 16; refine (CR.out _ false C1.out HU.out).mono ?_; rintro e w2 ⟨rfl, c2⟩; have C2 : Hid (Below w.heap.size w w2) := bel_tr C1.out c2; clear c2)
      | (go_at_call 10; refine (CO.out _ C2.out).mono ?_; rintro e w3 ⟨⟨oa, oc, og, rfl, hC⟩, c3⟩; have C3 : Hid (Below w.heap.size w w3) := bel_tr C2.out c3; clear c3 hC)
      | (go_at_call 12; refine (CC.out _ C3.out).mono ?_; rintro e w4 ⟨rfl, c4⟩; have C4 : Hid (Below w.heap.size w w4) := bel_tr C3.out c4; clear c4))
    go_ret
    exact ⟨rfl, C4.out⟩

theorem walk (a0 : Option Addr) (b0 off0 cap0 : Nat) (ss0 : List NR) (W : World) (h0 : Nds W a0 b0 off0 ss0) :
    Calls Try.prog 5 #[.slice a0 (ss0.map (·.1)).length cap0] W fun e w' => e = .returned (.bool true) ∧ Below W.heap.size W w' :=
  core W ⟨b0, off0, ss0, rfl, rfl, h0⟩

set_option maxRecDepth 100000 in
theorem lifted (os : Os) (started : os.Started) (H : Type) (enc : TypeId × Value → H) :
    ReturnsInHanded {} Try.checked os 5 .any (Rows.quotaCountsSpec.pre6 enc Try.prog Try.f5 Rows.quotaCountsRow.domain false) (Rows.quotaCountsSpec.post enc Try.prog Try.f5 false true false false) := by
  refine returnsInHanded_of_change (C := Try.checked) own started (by kernel_rfl) Try.func5
    (ChangeSpec.witness6 (enc := enc) (C := Try.checked) false ⟨#[], #[.slice none 0 0], []⟩ 8 (by kernel_rfl) (by kernel_rfl) (by kernel_rfl) (by kernel_rfl)) ?_
  intro W base args ds gs before hval0 hW hcnd _
  have hval : ∀ (j : Nat) t v, Try.f5.params[j]? = some t → args[j]? = some v → Value.okWide Try.prog W .any base t v := hval0
  have hW' := hW
  obtain ⟨p, q, hA0, hV, rfl, hfz, hnd⟩ := hW
  have hA : DataW.TrodAll enc Try.prog W 0 (fun _ => true) true Try.f5.params.toList args.toList ds p := hA0
  rw [Try.params5] at hA hval
  obtain ⟨v0, vs0, d0, ds0, p0, q0, hargs, rfl, rfl, h0, r0⟩ := trodAll_cons hA
  obtain ⟨rfl, rfl, rfl⟩ := trodAll_nil r0
  obtain rfl : args = #[v0] := by cases args; simp_all
  obtain ⟨rfl, rfl⟩ := trodVars_none hV
  obtain ⟨a0, len0, cap0, rfl⟩ := okWide_slice Try.underlying22 (hval 0 22 v0 rfl rfl)
  have k0 := h0
  have lt0 : ∀ x ∈ p0, x.block < W.heap.size := by obtain ⟨m, hm⟩ := k0; exact DataW.trod_lt m _ _ _ hm
  obtain ⟨b0, off0, ss0, rfl, w0, n0⟩ := open_nodes h0
  clear hA0 hval0
  refine (walk a0 b0 off0 cap0 ss0 W w0).mono fun e W' ⟨he, bel⟩ => ?_
  subst he
  exact ⟨_, rfl, _, _, _, [], _, [], hW', trodAll_mk1 (shut_bool Try.underlying4 _), (trodAll_cons_mk (Below.trod laidOut (by kernel_rfl) (of_decide_eq_true (by kernel_rfl)) k0 bel lt0) trodAll_mk0), rfl, bel.frame _, fun h => by cases h⟩

theorem over : Rows.quotaCountsRow.holds Try.pinned (OpenSpec.ofChange Rows.quotaCountsSpec) :=
  OpenClaim.holds_of_wide 5 Try.f5 rfl rfl rfl rfl rfl rfl rfl ⟨rfl, rfl, rfl, rfl, rfl⟩ rfl rfl rfl rfl rfl (by kernel_rfl) Try.func5 (by kernel_rfl)
    (of_decide_eq_true (by kernel_rfl)) (by unfold Func.isWrapper; first | (rw [if_pos (by decide +kernel)]; kernel_rfl) | (rw [if_neg (by decide +kernel)]; exact ⟨rfl, rfl⟩))
    (fun os started H enc _ => lifted os started H enc)
end Go.Proofs.Ytlfehfajaelmlaa.quotaCounts

namespace Go.Proofs.Ytlfehfajaelmlaa
/-- The statement. -/
theorem quotaCounts_holds : Rows.QuotaCountsSaid := quotaCounts.over
#print axioms quotaCounts_holds
end Go.Proofs.Ytlfehfajaelmlaa
