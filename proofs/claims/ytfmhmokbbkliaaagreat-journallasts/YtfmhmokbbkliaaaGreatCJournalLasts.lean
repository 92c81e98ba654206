/- JournalLasts: for every list of deeds: the statement's function returns true; nothing that was there is changed. No condition. -/
import Derived.Test.YtfmhmokbbkliaaaGreatB40
import Derived.Test.YtfmhmokbbkliaaaGreatB38
import Derived.BigQuiet
import Derived.Lib.QuietBelow
namespace Go.Proofs.YtfmhmokbbkliaaaGreat.journalLasts
open Go.ChangeShapes Go.WideShapes Go.ChangeAt Go.RowKit Go.Proofs.YtfmhmokbbkliaaaGreat Go.Proofs.YtfmhmokbbkliaaaGreat.Wir Go.Proofs.YtfmhmokbbkliaaaGreat.Lgg Go.Proofs.YtfmhmokbbkliaaaGreat.Sep Go.Proofs.YtfmhmokbbkliaaaGreat.Jrn
open Go.ChangeMaps (open_string shut_string)
set_option linter.unusedVariables false

theorem own : ownKnob Tryz.prog.godebug = none := by kernel_rfl

set_option maxRecDepth 100000 in
set_option maxHeartbeats 8000000 in
theorem walk_b (a0 : Option Addr) (cap0 n0 : Nat) (us : List JDd) (w : World) (hn0 : us.length = n0) (hU : JDds w a0 us) :
    Calls Tryz.prog 6 #[.slice a0 n0 cap0] w fun e w' => e = .returned (.bool true) ∧ Below w.heap.size w w' := by
  have hx1 : n0 ≤ 9223372036854775807 := by have := hU.lie.lid; unfold maxLen at this; omega
  have HN : Hid (us.length = n0) := hn0
  have HU : Hid (JDds w a0 us) := hU
  clear hn0 hU
  have HO : Hid (openQ ⟨400000, 0, false, []⟩ = (0, ⟨400000, 0, false, []⟩, nd0)) := open_none 400000
  have hst2 : ∀ (w : World) (a : Addr) (x : Option Addr) (n c : Nat) (m : Mode), (store a (.slice x n c) m).run Tryz.prog w = stored Tryz.prog w a (.slice x n c) m := fun w a x n c m => run_store (P := Tryz.prog) w a _ m rfl
  go_enter Tryz.func6, Tryz.ntmps6
  go_wp2_with fail
  refine (examples15_val _).mono ?_
  rintro e w2 ⟨rfl, b⟩
  have HZ2 : Hid (Hz w (fun _ => False) [] w2) := (hz_none w).below b
  clear b
  go_wp2_with fail
  refine (new_hz HZ2.out 400000 400000 (by omega) (by omega)).mono ?_
  rintro e w3 ⟨jd, rfl, hz⟩
  have HZ3 : Hid (Hz w (fun _ => False) [dsk jd ⟨400000, 0, false, []⟩] w3) := hz
  clear hz HZ2
  go_wp2_with fail
  refine (open_hz HZ3.out HO.out).mono ?_
  rintro e w4 ⟨jp0, rfl, hz⟩
  have HZ4 : Hid (Hz w (fun _ => False) [jr jp0 jd ⟨400000, 0, false, []⟩ nd0] w4) := hz
  clear hz HZ3 HO
  go_upto_region 8 with fail
  have HZ5 : Hid (Hz w (fun _ => False) [box w4.heap.size [.int .i64 0, .slice none 0 0], jr jp0 jd ⟨400000, 0, false, []⟩ nd0] (w4.alloc (.cells #[.int .i64 0, .slice none 0 0] 34))) := HZ4.out.box [.int .i64 0, .slice none 0 0] _
  clear HZ4
  generalize w4.alloc (.cells #[.int .i64 0, .slice none 0 0] 34) = w5 at *
  generalize w4.heap.size = HB at *
  have HZ6 : Hid (Hz w (fun _ => False) [jr jp0 jd ⟨400000, 0, false, []⟩ nd0, celT 2 (.slice none 0 0) 0 (rowC enC []) none, box HB [.int .i64 0, .slice none 0 0]] w5) := (put_nil HZ5.out).swap.swap2.swap.swap2
  clear HZ5
  go_wp2
  go_loopw [5, 7, 9] (fun vj vp vi wr => ∃ (k : Nat) (ds : DS) (j : Nd) (jp : Nat) (a : Option Addr) (m c : Nat) (g : Option Nat), k ≤ n0 ∧ k ≤ 40 ∧ vj = .pointer (some ⟨jp, 0, none⟩) ∧ vp = .int .i64 j.p ∧ vi = .int .i64 k ∧ j.l.es.length = m ∧ (Dv 187224 ds j ∧ j.l.ep ≤ j.p) ∧ Hz w (fun _ => False) [jr jp jd ds j, celT 2 (.slice a m c) m (rowC enC j.l.es) g, box HB [.int .i64 j.l.ep, .slice a m c]] wr) (fun _ _ vi _ => 40 - (intOf vi).toNat)
  case atStart => exact ⟨0, _, nd0, jp0, none, 0, 0, none, by omega, by omega, rfl, rfl, rfl, rfl, ⟨dv_noneN _, by decide⟩, HZ6.out⟩
  case round =>
    obtain ⟨k, ds, ⟨p1, ⟨le1, es1⟩, gn1⟩, jp, a, m, c, g, hkn, hk40, rfl, rfl, rfl, hm, hj, hz⟩ := hrel
    obtain rfl : gn1 = false := hj.1.alive
    have HZ : Hid (Hz w (fun _ => False) [jr jp jd ds ⟨p1, ⟨le1, es1⟩, false⟩, celT 2 (.slice a m c) m (rowC enC es1) g, box HB [.int .i64 le1, .slice a m c]] wr) := hz
    have HJ : Hid (Dv 187224 ds ⟨p1, ⟨le1, es1⟩, false⟩ ∧ le1 ≤ p1) := hj
    have hm300 : m ≤ 300 := by have := hj.1.ok.log.2.1; simp only at this hm; omega
    have HM : Hid (es1.length = m) := hm
    clear hz hj HZ6 hm
    by_cases hlt : k < n0 ∧ k < 40
    · obtain ⟨hlt0, hlt1⟩ := hlt
      have hk0 : k < us.length := by rw [HN.out]; exact hlt0
      obtain ⟨ub, uo, hua, hcell⟩ := HU.out.lie.at wideJD hk0
      have hok := HU.out.each _ (List.getElem_mem hk0)
      generalize us[k] = u at *
      subst hua
      obtain ⟨xkd, xue, xea, xec, xes, ⟨xtx, xxd⟩, xraw, xun, xka, xkb, xko, xkc, xks⟩ := u
      have g0 := hcell 0 _ rfl
      have g1 := hcell 1 _ rfl
      have g2 := hcell 2 _ rfl
      have g3 := hcell 3 _ rfl
      have g4 := hcell 4 _ rfl
      have g5 := hcell 5 _ rfl
      have g6 := hcell 6 _ rfl
      have g7 := hcell 7 _ rfl
      simp only [← Nat.add_assoc, Nat.add_zero] at g0 g1 g2 g3 g4 g5 g6 g7
      obtain ⟨em, hem⟩ : ∃ m, xes.length = m := ⟨_, rfl⟩
      obtain ⟨mk2, hmk⟩ : ∃ m, xks.length = m := ⟨_, rfl⟩
      rw [hem] at g2
      rw [hmk] at g7
      have HG : Hid (∀ W, Below w.heap.size w W → W.cell? ⟨ub, uo + k * 8, none⟩ = some (.int .i64 xkd) ∧ W.cell? ⟨ub, uo + k * 8 + 1, none⟩ = some (.int .i64 xue) ∧ W.cell? ⟨ub, uo + k * 8 + 2, none⟩ = some (.slice xea em xec) ∧ W.cell? ⟨ub, uo + k * 8 + 3, none⟩ = some (.int .i64 xtx) ∧ W.cell? ⟨ub, uo + k * 8 + 4, none⟩ = some (.string xxd) ∧ W.cell? ⟨ub, uo + k * 8 + 5, none⟩ = some (.string xraw) ∧ W.cell? ⟨ub, uo + k * 8 + 6, none⟩ = some (.int .i64 xun) ∧ W.cell? ⟨ub, uo + k * 8 + 7, none⟩ = some (.slice xka mk2 xkc)) := fun W hb => ⟨bel_cell hb g0, bel_cell hb g1, bel_cell hb g2, bel_cell hb g3, bel_cell hb g4, bel_cell hb g5, bel_cell hb g6, bel_cell hb g7⟩
      obtain ⟨q1, q2, q3, q3t, q4, q5, q6, q7, q8, q9⟩ := hok
      simp only at q1 q2 q3 q3t q4 q5 q6 q7 q8 q9
      obtain ⟨S, hS⟩ : ∃ S, askT xkd xue xes ⟨xtx, xxd⟩ xraw = S := ⟨_, rfl⟩
      have CA : Hid (∀ W, Below w.heap.size w W → Calls Tryz.prog 29 #[.agg #[.int .i64 xkd, .int .i64 xue, .slice xea em xec, .int .i64 xtx, .string xxd, .string xraw, .int .i64 xun, .slice xka mk2 xkc]] W fun e w' => e = .returned (.string S) ∧ Below W.heap.size W w') := fun W hb => asked_val xkd xue xea em xec xes ⟨xtx, xxd⟩ xraw xun xka mk2 xkc (q3.row.below hb) q3.small q1 q2 q4 hem S hS
      have HS : Hid (S.size ≤ maxLen) := by show S.size ≤ maxLen; rw [← hS]; exact ask_small q5
      have HKs : Hid ((xks.length = mk2 ∧ mk2 ≤ maxLen) ∧ Ints w .i64 xka xkb xko xks ∧ ∀ k ∈ xks, -9223372036854775808 ≤ k ∧ k ≤ 9223372036854775807) := ⟨⟨hmk, by rw [← hmk]; exact q8⟩, q7, q9⟩
      obtain ⟨Qf, hQf⟩ : ∃ Q, keepN xun % 12 = Q := ⟨_, rfl⟩
      have hQ12 : Qf < 12 := by rw [← hQf]; exact Nat.mod_lt _ (by omega)
      have CPk : Hid (∀ W, Calls Tryz.prog 23 #[.int .i64 xun, .int .i64 12] W fun e w' => e = .returned (.int .i64 Qf) ∧ w' = W) := fun W => pick15_val xun 12 Qf W q6 (by omega) hQf
      obtain ⟨d0, hd0⟩ : ∃ d, ({ ds with fuse := (Qf : Int) } : DS) = d := ⟨_, rfl⟩
      have HD0 : Hid (Dv 187224 d0 ⟨p1, ⟨le1, es1⟩, false⟩ ∧ ({ ds with fuse := (Qf : Int) } : DS) = d0) := ⟨by rw [← hd0]; exact HJ.out.1.fuse (by omega), hd0⟩
      have hres := hand_res (N := 187224) ⟨Nat.le_refl _, fun _ => rfl⟩ HD0.out.1 S
      have hmore := hand_more (ds := d0) (j := ⟨p1, ⟨le1, es1⟩, false⟩) rfl HJ.out.2 S
      obtain ⟨ds1, hd1⟩ : ∃ d, (handQ d0 ⟨p1, ⟨le1, es1⟩, false⟩ S).ds = d := ⟨_, rfl⟩
      obtain ⟨j1, hj1⟩ : ∃ x, (handQ d0 ⟨p1, ⟨le1, es1⟩, false⟩ S).j = x := ⟨_, rfl⟩
      rw [hd1, hj1] at hres
      rw [hj1] at hmore
      have HD : Hid ((handQ d0 ⟨p1, ⟨le1, es1⟩, false⟩ S).ds = ds1 ∧ (handQ d0 ⟨p1, ⟨le1, es1⟩, false⟩ S).j = j1) := ⟨hd1, hj1⟩
      clear hcell hem hmk q1 q2 q3 q3t q4 q5 q6 q7 q8 q9 hk0 hS hQf hd0 hd1 hj1 g0 g1 g2 g3 g4 g5 g6 g7
      rcases hres with ⟨k1, -⟩ | ⟨-, hdead, p2, hp2, hL⟩
      · obtain ⟨p2, ⟨le2, es2⟩, gn2⟩ := j1
        obtain rfl : gn2 = false := k1.alive
        obtain ⟨hc1, hc2, hc3, hc4⟩ := hmore rfl
        simp only at hc1 hc2 hc3 hc4
        have HA : Hid (Dv 187224 ds1 ⟨p2, ⟨le2, es2⟩, false⟩) := k1
        have hdn : ds1.down = false := k1.run.up
        have HDn : Hid (ds1.down = false) := hdn
        clear k1 hdn
        obtain ⟨m2, hm2⟩ : ∃ m, es2.length = m := ⟨_, rfl⟩
        have HM2 : Hid (es2.length = m2) := hm2
        have hm302 : m2 ≤ 300 := by rw [← hm2]; exact HA.out.ok.log.2.1
        have HT : Hid (le2 = le1 → es2.take es1.length = es1) := hc3
        clear hm2 hc3 hmore
        obtain ⟨g0, g1, g2, g3, g4, g5, g6, g7⟩ := HG.out _ (hz_bel HZ.out)
        go_upto_region 12 with fail
        have HZ5 : Hid (Hz w (fun _ => False) [box wr.heap.size [.int .i64 xkd, .int .i64 xue, .slice xea em xec, .int .i64 xtx, .string xxd, .string xraw, .int .i64 xun, .slice xka mk2 xkc], jr jp jd ds ⟨p1, ⟨le1, es1⟩, false⟩, celT 2 (.slice a m c) m (rowC enC es1) g, box HB [.int .i64 le1, .slice a m c]] (wr.alloc (.cells #[.int .i64 xkd, .int .i64 xue, .slice xea em xec, .int .i64 xtx, .string xxd, .string xraw, .int .i64 xun, .slice xka mk2 xkc] 55))) := HZ.out.box [.int .i64 xkd, .int .i64 xue, .slice xea em xec, .int .i64 xtx, .string xxd, .string xraw, .int .i64 xun, .slice xka mk2 xkc] _
        clear HZ g0 g1 g2 g3 g4 g5 g6 g7
        generalize wr.alloc (.cells #[.int .i64 xkd, .int .i64 xue, .slice xea em xec, .int .i64 xtx, .string xxd, .string xraw, .int .i64 xun, .slice xka mk2 xkc] 55) = w5 at *
        generalize wr.heap.size = UB at *
        have HZ6 : Hid (Hz w (fun _ => False) [jr jp jd ds ⟨p1, ⟨le1, es1⟩, false⟩, box UB [.int .i64 xkd, .int .i64 xue, .slice xea em xec, .int .i64 xtx, .string xxd, .string xraw, .int .i64 xun, .slice xka mk2 xkc], celT 2 (.slice a m c) m (rowC enC es1) g, box HB [.int .i64 le1, .slice a m c]] w5) := HZ5.out.swap
        clear HZ5
        have u6 := HZ6.out.cell 1 rfl (j := 6) rfl
        go_wp2_with fail
        refine (CPk.out _).mono ?_
        rintro e wB ⟨rfl, hwy⟩
        have hwz := hwy.symm
        subst hwz
        clear hwy
        go_wp2_with fail
        refine (fuse_hz HZ6.out (Qf : Int) (Qf : Int) (by omega) (by omega) HD0.out.2).mono ?_
        rintro e w7 ⟨rfl, hz⟩
        have HZ7 : Hid (Hz w (fun _ => False) [jr jp jd d0 ⟨p1, ⟨le1, es1⟩, false⟩, box UB [.int .i64 xkd, .int .i64 xue, .slice xea em xec, .int .i64 xtx, .string xxd, .string xraw, .int .i64 xun, .slice xka mk2 xkc], celT 2 (.slice a m c) m (rowC enC es1) g, box HB [.int .i64 le1, .slice a m c]] w7) := hz
        clear hz HZ6 u6
        have u0 := HZ7.out.cell 1 rfl (j := 0) rfl
        have u1 := HZ7.out.cell 1 rfl (j := 1) rfl
        have u2 := HZ7.out.cell 1 rfl (j := 2) rfl
        have u3 := HZ7.out.cell 1 rfl (j := 3) rfl
        have u4 := HZ7.out.cell 1 rfl (j := 4) rfl
        have u5 := HZ7.out.cell 1 rfl (j := 5) rfl
        have u6 := HZ7.out.cell 1 rfl (j := 6) rfl
        have u7 := HZ7.out.cell 1 rfl (j := 7) rfl
        go_wp2_with fail
        refine (CA.out _ (hz_bel HZ7.out)).mono ?_
        rintro e w8 ⟨rfl, b⟩
        have HZ8 : Hid (Hz w (fun _ => False) [jr jp jd d0 ⟨p1, ⟨le1, es1⟩, false⟩, box UB [.int .i64 xkd, .int .i64 xue, .slice xea em xec, .int .i64 xtx, .string xxd, .string xraw, .int .i64 xun, .slice xka mk2 xkc], celT 2 (.slice a m c) m (rowC enC es1) g, box HB [.int .i64 le1, .slice a m c]] w8) := HZ7.out.below b
        clear b HZ7 u0 u1 u2 u3 u4 u5 u6 u7
        go_wp2_with fail
        refine (hand_hz HZ8.out 0 rfl HD0.out.1.ok S HS.out _ rfl HD.out.2 HD.out.1).mono ?_
        rintro e w9 ⟨T, rfl, -, -, hz⟩
        have HZ9 : Hid (Hz w (fun _ => False) [jr jp jd ds1 ⟨p2, ⟨le2, es2⟩, false⟩, box UB [.int .i64 xkd, .int .i64 xue, .slice xea em xec, .int .i64 xtx, .string xxd, .string xraw, .int .i64 xun, .slice xka mk2 xkc], celT 2 (.slice a m c) m (rowC enC es1) g, box HB [.int .i64 le1, .slice a m c]] w9) := hz
        clear hz HZ8
        go_wp2_with fail
        refine (down_hz HZ9.out false HDn.out).mono ?_
        rintro e wC ⟨rfl, hwy⟩
        have hwz := hwy.symm
        subst hwz
        clear hwy
        have HZB : Hid (Hz w (fun _ => False) [jr jp jd ds1 ⟨p2, ⟨le2, es2⟩, false⟩, box UB [.int .i64 xkd, .int .i64 xue, .slice xea em xec, .int .i64 xtx, .string xxd, .string xraw, .int .i64 xun, .slice xka mk2 xkc], celT 2 (.slice a m c) m (rowC enC es1) g, box HB [.int .i64 le1, .slice a m c]] w9) := HZ9.out
        clear HZ9
        go_wp2_with fail
        refine (log_hz HZB.out 0 rfl HA.out.ok).mono ?_
        rintro e wD ⟨⟨a2, c2, g2, hx, hC⟩, b⟩
        simp only [HM2.out] at hx hC
        subst hx
        have HZD : Hid (Hz w (fun _ => False) [celT 2 (.slice a2 m2 c2) m2 (rowC enC es2) g2, jr jp jd ds1 ⟨p2, ⟨le2, es2⟩, false⟩, box UB [.int .i64 xkd, .int .i64 xue, .slice xea em xec, .int .i64 xtx, .string xxd, .string xraw, .int .i64 xun, .slice xka mk2 xkc], celT 2 (.slice a m c) m (rowC enC es1) g, box HB [.int .i64 le1, .slice a m c]] wD) := put_cel HZB.out b hC
        clear hC b HZB
        go_upto_region 21 with fail
        have HZE : Hid (Hz w (fun _ => False) [box wD.heap.size [.int .i64 le2, .slice a2 m2 c2], celT 2 (.slice a2 m2 c2) m2 (rowC enC es2) g2, jr jp jd ds1 ⟨p2, ⟨le2, es2⟩, false⟩, box UB [.int .i64 xkd, .int .i64 xue, .slice xea em xec, .int .i64 xtx, .string xxd, .string xraw, .int .i64 xun, .slice xka mk2 xkc], celT 2 (.slice a m c) m (rowC enC es1) g, box HB [.int .i64 le1, .slice a m c]] (wD.alloc (.cells #[.int .i64 le2, .slice a2 m2 c2] 34))) := HZD.out.box [.int .i64 le2, .slice a2 m2 c2] _
        clear HZD
        generalize wD.alloc (.cells #[.int .i64 le2, .slice a2 m2 c2] 34) = wE at *
        generalize wD.heap.size = LB at *
        go_wp2_with fail
        refine (dead_hz HZE.out 2 rfl).mono ?_
        rintro e wF ⟨hx, hwy⟩
        have hx2 : e = .returned (.bool false) := hx
        subst hx2
        have hwz := hwy.symm
        subst hwz
        clear hwy hx
        have cy0 := HZE.out.cell 0 rfl (j := 0) rfl
        have y0 := fun dd os => cell_regrown cy0 dd os
        have cy1 := HZE.out.cell 0 rfl (j := 1) rfl
        have y1 := fun dd os => cell_regrown cy1 dd os
        have cz0 := HZE.out.cell 5 rfl (j := 0) rfl
        have z0 := fun dd os => cell_regrown cz0 dd os
        have cz1 := HZE.out.cell 5 rfl (j := 1) rfl
        have z1 := fun dd os => cell_regrown cz1 dd os
        clear cy0 cy1 cz0 cz1
        have CB : Hid (le2 = le1 → ∀ W, Below wE.heap.size wE W → Calls Tryz.prog 40 #[.slice a2 m2 c2, .slice a m c] W fun e w' => e = .returned (.bool true) ∧ Below W.heap.size W w') := fun heq W hb => by
          obtain ⟨O1, l1⟩ := cel_lie (HZE.out.below hb) 1 rfl HM2.out
          obtain ⟨O2, l2⟩ := cel_lie (HZE.out.below hb) 4 rfl HM.out
          exact begins15_val l1 l2 _ _ _ _ HM2.out HM.out true ⟨fun _ => HT.out heq, fun _ => rfl⟩
        have CPm : Hid (∀ W, Below wE.heap.size wE W → Calls Tryz.prog 39 #[.pointer (some ⟨jp, 0, none⟩)] W fun e w' => e = .returned (.int .i64 p2) ∧ Below W.heap.size W w') := fun W hb => (promised_hz (HZE.out.below hb) 2 rfl).mono fun e w' ⟨h1, h2⟩ => ⟨h1, by rw [h2]; exact Below.refl _ _⟩
        have hb1 : decide (p2 < p1) = false := decide_eq_false (by omega)
        have hb2 : decide (le2 < le1) = false := decide_eq_false (by omega)
        have hb3 : decide (p2 < le2) = false := decide_eq_false (by omega)
        by_cases heq : le2 = le1
        · subst heq
          have CB2 : Hid (∀ W, Below wE.heap.size wE W → Calls Tryz.prog 40 #[.slice a2 m2 c2, .slice a m c] W fun e w' => e = .returned (.bool true) ∧ Below W.heap.size W w') := CB.out rfl
          clear CB
          go_wp2
          refine wp_region_quiet_below (by kernel_rfl) (by kernel_rfl) ?_
          repeat (first | go_big_quiet_step (first | (go_at_call 39; exact Calls.regrown_of (CPm.out _ (below_regrown _ _ _))) | (go_at_call 40; exact Calls.regrown_of (CB2.out _ (below_regrown _ _ _)))) | quiet_step (first | (go_at_call 39; exact Calls.regrown_of (CPm.out _ (below_regrown _ _ _))) | (go_at_call 40; exact Calls.regrown_of (CB2.out _ (below_regrown _ _ _)))))
          refine wpQuiet_nil ?_
          intro _ hw'
          obtain ⟨⟨dq, osq⟩, hw''⟩ := hw'
          subst hw''
          have HZG : Hid (Hz w (fun _ => False) [box LB [.int .i64 le2, .slice a2 m2 c2], celT 2 (.slice a2 m2 c2) m2 (rowC enC es2) g2, jr jp jd ds1 ⟨p2, ⟨le2, es2⟩, false⟩, box UB [.int .i64 xkd, .int .i64 xue, .slice xea em xec, .int .i64 xtx, .string xxd, .string xraw, .int .i64 xun, .slice xka mk2 xkc], celT 2 (.slice a m c) m (rowC enC es1) g, box HB [.int .i64 le2, .slice a m c]] (Sort.grow (redrawn wE dq) osq)) := HZE.out.below (below_regrown wE dq osq)
          clear y0 y1 z0 z1 HZE CB2 CPm
          generalize Sort.grow (redrawn wE dq) osq = wG at *
          have y0 := HZG.out.cell 0 rfl (j := 0) rfl
          have y1 := HZG.out.cell 0 rfl (j := 1) rfl
          have f0 := HZG.out.fr 5 rfl 0
          have f1 := HZG.out.fr 5 rfl 1
          have z0 := HZG.out.cell 5 rfl (j := 0) rfl
          have z1 := HZG.out.cell 5 rfl (j := 1) rfl
          go_wp2_with (go_at_call 39; refine (promised_hz HZG.out 2 rfl).mono ?_; rintro e wq ⟨hx, hwy⟩; have hx2 : e = .returned (.int .i64 p2) := hx; subst hx2; have hwz := hwy.symm; subst hwz; clear hwy hx)
          go_roundw
          case rel => exact ⟨k + 1, ds1, ⟨p2, ⟨le2, es2⟩, false⟩, jp, a2, m2, c2, g2, by omega, by omega, rfl, rfl, by go_num, HM2.out, ⟨HA.out, hc4⟩, (((HZG.out.setBox 5 rfl 0 (.int .i64 le2) (by simp)).setBox 5 rfl 1 (.slice a2 m2 c2) (by simp)).less.swap.erase 2).erase 2⟩
          case measure => simp [intOf]; omega
        · have hlt2 : le1 < le2 := by omega
          have hb4 : (le2 == le1) = false := beq_eq_false_iff_ne.2 heq
          clear CB
          go_wp2
          refine wp_region_quiet_below (by kernel_rfl) (by kernel_rfl) ?_
          repeat (first | go_big_quiet_step (first | (go_at_call 39; exact Calls.regrown_of (CPm.out _ (below_regrown _ _ _))) ) | quiet_step (first | (go_at_call 39; exact Calls.regrown_of (CPm.out _ (below_regrown _ _ _))) ))
          refine wpQuiet_nil ?_
          intro _ hw'
          obtain ⟨⟨dq, osq⟩, hw''⟩ := hw'
          subst hw''
          have HZG : Hid (Hz w (fun _ => False) [box LB [.int .i64 le2, .slice a2 m2 c2], celT 2 (.slice a2 m2 c2) m2 (rowC enC es2) g2, jr jp jd ds1 ⟨p2, ⟨le2, es2⟩, false⟩, box UB [.int .i64 xkd, .int .i64 xue, .slice xea em xec, .int .i64 xtx, .string xxd, .string xraw, .int .i64 xun, .slice xka mk2 xkc], celT 2 (.slice a m c) m (rowC enC es1) g, box HB [.int .i64 le1, .slice a m c]] (Sort.grow (redrawn wE dq) osq)) := HZE.out.below (below_regrown wE dq osq)
          clear y0 y1 z0 z1 HZE CPm
          generalize Sort.grow (redrawn wE dq) osq = wG at *
          have y0 := HZG.out.cell 0 rfl (j := 0) rfl
          have y1 := HZG.out.cell 0 rfl (j := 1) rfl
          have f0 := HZG.out.fr 5 rfl 0
          have f1 := HZG.out.fr 5 rfl 1
          have z0 := HZG.out.cell 5 rfl (j := 0) rfl
          have z1 := HZG.out.cell 5 rfl (j := 1) rfl
          go_wp2_with (go_at_call 39; refine (promised_hz HZG.out 2 rfl).mono ?_; rintro e wq ⟨hx, hwy⟩; have hx2 : e = .returned (.int .i64 p2) := hx; subst hx2; have hwz := hwy.symm; subst hwz; clear hwy hx)
          go_roundw
          case rel => exact ⟨k + 1, ds1, ⟨p2, ⟨le2, es2⟩, false⟩, jp, a2, m2, c2, g2, by omega, by omega, rfl, rfl, by go_num, HM2.out, ⟨HA.out, hc4⟩, (((HZG.out.setBox 5 rfl 0 (.int .i64 le2) (by simp)).setBox 5 rfl 1 (.slice a2 m2 c2) (by simp)).less.swap.erase 2).erase 2⟩
          case measure => simp [intOf]; omega
      · have hrm : ds1.room = 400000 := hL.room
        obtain ⟨ds2, ⟨le2, es2⟩, hop, hdv, hep, htk⟩ := (lost_open (Nat.le_refl _) hL xks).ex
        simp only at hep htk
        subst hep
        have hc2 : le2 ≤ le2 := Int.le_refl _
        have hc4 : le2 ≤ p2 := by have h1 := HJ.out.2; simp only at hp2; omega
        have hc1 : p1 ≤ p2 := hp2
        have HA : Hid (Dv 187224 ds2 ⟨p2, ⟨le2, es2⟩, false⟩) := hdv
        have HOp : Hid (openQ ⟨400000, 0, false, crashL xks ds1.S⟩ = (0, ds2, ⟨p2, ⟨le2, es2⟩, false⟩) ∧ (⟨ds1.room, 0, false, crashL xks ds1.S⟩ : DS) = ⟨400000, 0, false, crashL xks ds1.S⟩) := ⟨hop, by rw [hrm]⟩
        have HDn : Hid (ds1.down = true) := hL.down
        obtain ⟨m2, hm2⟩ : ∃ m, es2.length = m := ⟨_, rfl⟩
        have HM2 : Hid (es2.length = m2) := hm2
        have hm302 : m2 ≤ 300 := by rw [← hm2]; exact HA.out.ok.log.2.1
        have HT : Hid (True → es2.take es1.length = es1) := fun _ => htk
        subst hdead
        clear hm2 htk hmore hop hdv hrm hp2 hL
        obtain ⟨g0, g1, g2, g3, g4, g5, g6, g7⟩ := HG.out _ (hz_bel HZ.out)
        go_upto_region 12 with fail
        have HZ5 : Hid (Hz w (fun _ => False) [box wr.heap.size [.int .i64 xkd, .int .i64 xue, .slice xea em xec, .int .i64 xtx, .string xxd, .string xraw, .int .i64 xun, .slice xka mk2 xkc], jr jp jd ds ⟨p1, ⟨le2, es1⟩, false⟩, celT 2 (.slice a m c) m (rowC enC es1) g, box HB [.int .i64 le2, .slice a m c]] (wr.alloc (.cells #[.int .i64 xkd, .int .i64 xue, .slice xea em xec, .int .i64 xtx, .string xxd, .string xraw, .int .i64 xun, .slice xka mk2 xkc] 55))) := HZ.out.box [.int .i64 xkd, .int .i64 xue, .slice xea em xec, .int .i64 xtx, .string xxd, .string xraw, .int .i64 xun, .slice xka mk2 xkc] _
        clear HZ g0 g1 g2 g3 g4 g5 g6 g7
        generalize wr.alloc (.cells #[.int .i64 xkd, .int .i64 xue, .slice xea em xec, .int .i64 xtx, .string xxd, .string xraw, .int .i64 xun, .slice xka mk2 xkc] 55) = w5 at *
        generalize wr.heap.size = UB at *
        have HZ6 : Hid (Hz w (fun _ => False) [jr jp jd ds ⟨p1, ⟨le2, es1⟩, false⟩, box UB [.int .i64 xkd, .int .i64 xue, .slice xea em xec, .int .i64 xtx, .string xxd, .string xraw, .int .i64 xun, .slice xka mk2 xkc], celT 2 (.slice a m c) m (rowC enC es1) g, box HB [.int .i64 le2, .slice a m c]] w5) := HZ5.out.swap
        clear HZ5
        have u6 := HZ6.out.cell 1 rfl (j := 6) rfl
        go_wp2_with fail
        refine (CPk.out _).mono ?_
        rintro e wB ⟨rfl, hwy⟩
        have hwz := hwy.symm
        subst hwz
        clear hwy
        go_wp2_with fail
        refine (fuse_hz HZ6.out (Qf : Int) (Qf : Int) (by omega) (by omega) HD0.out.2).mono ?_
        rintro e w7 ⟨rfl, hz⟩
        have HZ7 : Hid (Hz w (fun _ => False) [jr jp jd d0 ⟨p1, ⟨le2, es1⟩, false⟩, box UB [.int .i64 xkd, .int .i64 xue, .slice xea em xec, .int .i64 xtx, .string xxd, .string xraw, .int .i64 xun, .slice xka mk2 xkc], celT 2 (.slice a m c) m (rowC enC es1) g, box HB [.int .i64 le2, .slice a m c]] w7) := hz
        clear hz HZ6 u6
        have u0 := HZ7.out.cell 1 rfl (j := 0) rfl
        have u1 := HZ7.out.cell 1 rfl (j := 1) rfl
        have u2 := HZ7.out.cell 1 rfl (j := 2) rfl
        have u3 := HZ7.out.cell 1 rfl (j := 3) rfl
        have u4 := HZ7.out.cell 1 rfl (j := 4) rfl
        have u5 := HZ7.out.cell 1 rfl (j := 5) rfl
        have u6 := HZ7.out.cell 1 rfl (j := 6) rfl
        have u7 := HZ7.out.cell 1 rfl (j := 7) rfl
        go_wp2_with fail
        refine (CA.out _ (hz_bel HZ7.out)).mono ?_
        rintro e w8 ⟨rfl, b⟩
        have HZ8 : Hid (Hz w (fun _ => False) [jr jp jd d0 ⟨p1, ⟨le2, es1⟩, false⟩, box UB [.int .i64 xkd, .int .i64 xue, .slice xea em xec, .int .i64 xtx, .string xxd, .string xraw, .int .i64 xun, .slice xka mk2 xkc], celT 2 (.slice a m c) m (rowC enC es1) g, box HB [.int .i64 le2, .slice a m c]] w8) := HZ7.out.below b
        clear b HZ7 u0 u1 u2 u3 u4 u5 u6 u7
        go_wp2_with fail
        refine (hand_hz HZ8.out 0 rfl HD0.out.1.ok S HS.out _ rfl HD.out.2 HD.out.1).mono ?_
        rintro e w9 ⟨T, rfl, -, -, hz⟩
        have HZ9 : Hid (Hz w (fun _ => False) [jr jp jd ds1 deadN, box UB [.int .i64 xkd, .int .i64 xue, .slice xea em xec, .int .i64 xtx, .string xxd, .string xraw, .int .i64 xun, .slice xka mk2 xkc], celT 2 (.slice a m c) m (rowC enC es1) g, box HB [.int .i64 le2, .slice a m c]] w9) := hz
        clear hz HZ8
        go_wp2_with fail
        refine (down_hz HZ9.out true HDn.out).mono ?_
        rintro e wC ⟨rfl, hwy⟩
        have hwz := hwy.symm
        subst hwz
        clear hwy
        have u7 := HZ9.out.cell 1 rfl (j := 7) rfl
        go_wp2_with fail
        refine (crash_hz HZ9.out xka xkb xko xkc mk2 xks HKs.out.1.1 HKs.out.1.2 HKs.out.2.1 HKs.out.2.2 HOp.out.2).mono ?_
        rintro e w10 ⟨rfl, hz⟩
        have HZ10 : Hid (Hz w (fun _ => False) [dsk jd ⟨400000, 0, false, crashL xks ds1.S⟩, box UB [.int .i64 xkd, .int .i64 xue, .slice xea em xec, .int .i64 xtx, .string xxd, .string xraw, .int .i64 xun, .slice xka mk2 xkc], celT 2 (.slice a m c) m (rowC enC es1) g, box HB [.int .i64 le2, .slice a m c]] w10) := hz
        clear hz HZ9 u7
        go_wp2_with fail
        refine (open_hz HZ10.out HOp.out.1).mono ?_
        rintro e w11 ⟨jp2, rfl, hz⟩
        have HZB : Hid (Hz w (fun _ => False) [jr jp2 jd ds2 ⟨p2, ⟨le2, es2⟩, false⟩, box UB [.int .i64 xkd, .int .i64 xue, .slice xea em xec, .int .i64 xtx, .string xxd, .string xraw, .int .i64 xun, .slice xka mk2 xkc], celT 2 (.slice a m c) m (rowC enC es1) g, box HB [.int .i64 le2, .slice a m c]] w11) := hz
        clear hz HZ10
        go_wp2_with fail
        refine (log_hz HZB.out 0 rfl HA.out.ok).mono ?_
        rintro e wD ⟨⟨a2, c2, g2, hx, hC⟩, b⟩
        simp only [HM2.out] at hx hC
        subst hx
        have HZD : Hid (Hz w (fun _ => False) [celT 2 (.slice a2 m2 c2) m2 (rowC enC es2) g2, jr jp2 jd ds2 ⟨p2, ⟨le2, es2⟩, false⟩, box UB [.int .i64 xkd, .int .i64 xue, .slice xea em xec, .int .i64 xtx, .string xxd, .string xraw, .int .i64 xun, .slice xka mk2 xkc], celT 2 (.slice a m c) m (rowC enC es1) g, box HB [.int .i64 le2, .slice a m c]] wD) := put_cel HZB.out b hC
        clear hC b HZB
        go_upto_region 21 with fail
        have HZE : Hid (Hz w (fun _ => False) [box wD.heap.size [.int .i64 le2, .slice a2 m2 c2], celT 2 (.slice a2 m2 c2) m2 (rowC enC es2) g2, jr jp2 jd ds2 ⟨p2, ⟨le2, es2⟩, false⟩, box UB [.int .i64 xkd, .int .i64 xue, .slice xea em xec, .int .i64 xtx, .string xxd, .string xraw, .int .i64 xun, .slice xka mk2 xkc], celT 2 (.slice a m c) m (rowC enC es1) g, box HB [.int .i64 le2, .slice a m c]] (wD.alloc (.cells #[.int .i64 le2, .slice a2 m2 c2] 34))) := HZD.out.box [.int .i64 le2, .slice a2 m2 c2] _
        clear HZD
        generalize wD.alloc (.cells #[.int .i64 le2, .slice a2 m2 c2] 34) = wE at *
        generalize wD.heap.size = LB at *
        go_wp2_with fail
        refine (dead_hz HZE.out 2 rfl).mono ?_
        rintro e wF ⟨hx, hwy⟩
        have hx2 : e = .returned (.bool false) := hx
        subst hx2
        have hwz := hwy.symm
        subst hwz
        clear hwy hx
        have cy0 := HZE.out.cell 0 rfl (j := 0) rfl
        have y0 := fun dd os => cell_regrown cy0 dd os
        have cy1 := HZE.out.cell 0 rfl (j := 1) rfl
        have y1 := fun dd os => cell_regrown cy1 dd os
        have cz0 := HZE.out.cell 5 rfl (j := 0) rfl
        have z0 := fun dd os => cell_regrown cz0 dd os
        have cz1 := HZE.out.cell 5 rfl (j := 1) rfl
        have z1 := fun dd os => cell_regrown cz1 dd os
        clear cy0 cy1 cz0 cz1
        have CB : Hid (le2 = le2 → ∀ W, Below wE.heap.size wE W → Calls Tryz.prog 40 #[.slice a2 m2 c2, .slice a m c] W fun e w' => e = .returned (.bool true) ∧ Below W.heap.size W w') := fun heq W hb => by
          obtain ⟨O1, l1⟩ := cel_lie (HZE.out.below hb) 1 rfl HM2.out
          obtain ⟨O2, l2⟩ := cel_lie (HZE.out.below hb) 4 rfl HM.out
          exact begins15_val l1 l2 _ _ _ _ HM2.out HM.out true ⟨fun _ => HT.out trivial, fun _ => rfl⟩
        have CPm : Hid (∀ W, Below wE.heap.size wE W → Calls Tryz.prog 39 #[.pointer (some ⟨jp2, 0, none⟩)] W fun e w' => e = .returned (.int .i64 p2) ∧ Below W.heap.size W w') := fun W hb => (promised_hz (HZE.out.below hb) 2 rfl).mono fun e w' ⟨h1, h2⟩ => ⟨h1, by rw [h2]; exact Below.refl _ _⟩
        have hb1 : decide (p2 < p1) = false := decide_eq_false (by omega)
        have hb2 : decide (le2 < le2) = false := decide_eq_false (by omega)
        have hb3 : decide (p2 < le2) = false := decide_eq_false (by omega)
        have CB2 : Hid (∀ W, Below wE.heap.size wE W → Calls Tryz.prog 40 #[.slice a2 m2 c2, .slice a m c] W fun e w' => e = .returned (.bool true) ∧ Below W.heap.size W w') := CB.out rfl
        clear CB
        go_wp2
        refine wp_region_quiet_below (by kernel_rfl) (by kernel_rfl) ?_
        repeat (first | go_big_quiet_step (first | (go_at_call 39; exact Calls.regrown_of (CPm.out _ (below_regrown _ _ _))) | (go_at_call 40; exact Calls.regrown_of (CB2.out _ (below_regrown _ _ _)))) | quiet_step (first | (go_at_call 39; exact Calls.regrown_of (CPm.out _ (below_regrown _ _ _))) | (go_at_call 40; exact Calls.regrown_of (CB2.out _ (below_regrown _ _ _)))))
        refine wpQuiet_nil ?_
        intro _ hw'
        obtain ⟨⟨dq, osq⟩, hw''⟩ := hw'
        subst hw''
        have HZG : Hid (Hz w (fun _ => False) [box LB [.int .i64 le2, .slice a2 m2 c2], celT 2 (.slice a2 m2 c2) m2 (rowC enC es2) g2, jr jp2 jd ds2 ⟨p2, ⟨le2, es2⟩, false⟩, box UB [.int .i64 xkd, .int .i64 xue, .slice xea em xec, .int .i64 xtx, .string xxd, .string xraw, .int .i64 xun, .slice xka mk2 xkc], celT 2 (.slice a m c) m (rowC enC es1) g, box HB [.int .i64 le2, .slice a m c]] (Sort.grow (redrawn wE dq) osq)) := HZE.out.below (below_regrown wE dq osq)
        clear y0 y1 z0 z1 HZE CB2 CPm
        generalize Sort.grow (redrawn wE dq) osq = wG at *
        have y0 := HZG.out.cell 0 rfl (j := 0) rfl
        have y1 := HZG.out.cell 0 rfl (j := 1) rfl
        have f0 := HZG.out.fr 5 rfl 0
        have f1 := HZG.out.fr 5 rfl 1
        have z0 := HZG.out.cell 5 rfl (j := 0) rfl
        have z1 := HZG.out.cell 5 rfl (j := 1) rfl
        go_wp2_with (go_at_call 39; refine (promised_hz HZG.out 2 rfl).mono ?_; rintro e wq ⟨hx, hwy⟩; have hx2 : e = .returned (.int .i64 p2) := hx; subst hx2; have hwz := hwy.symm; subst hwz; clear hwy hx)
        go_roundw
        case rel => exact ⟨k + 1, ds2, ⟨p2, ⟨le2, es2⟩, false⟩, jp2, a2, m2, c2, g2, by omega, by omega, rfl, rfl, by go_num, HM2.out, ⟨HA.out, hc4⟩, (((HZG.out.setBox 5 rfl 0 (.int .i64 le2) (by simp)).setBox 5 rfl 1 (.slice a2 m2 c2) (by simp)).less.swap.erase 2).erase 2⟩
        case measure => simp [intOf]; omega
    · have hex : n0 ≤ k ∨ (k < n0 ∧ 40 ≤ k) := by omega
      clear hlt HN HU
      rcases hex with c1 | ⟨c1, c2⟩
      all_goals
        have B7 : Hid (Below w.heap.size w wr) := hz_bel HZ.out
        clear HZ
        go_wp2
        go_ret
        exact ⟨rfl, B7.out⟩

theorem walk (a0 : Option Addr) (cap0 : Nat) (us : List JDd) (w : World) (w0 : JDds w a0 us) :
    Calls Tryz.prog 6 #[.slice a0 us.length cap0] w fun e w' => e = .returned (.bool true) ∧ Below w.heap.size w w' :=
  walk_b a0 cap0 _ us w rfl w0

set_option maxRecDepth 100000 in
theorem lifted (os : Os) (started : os.Started) (H : Type) (enc : TypeId × Value → H) :
    ReturnsInHanded {} Tryz.checked os 6 .any (Rows.journalLastsSpec.pre6 enc Tryz.prog Tryz.f6 Rows.journalLastsRow.domain false) (Rows.journalLastsSpec.post enc Tryz.prog Tryz.f6 false true false false) := by
  refine returnsInHanded_of_change (C := Tryz.checked) own started (by kernel_rfl) Tryz.func6
    (ChangeSpec.witness6 (enc := enc) (C := Tryz.checked) false ⟨#[], #[.slice none 0 0], []⟩ 8 (by kernel_rfl) (by kernel_rfl) (by kernel_rfl) (by kernel_rfl)) ?_
  intro W base args ds gs before hval0 hW hcnd _
  have hval : ∀ (j : Nat) t v, Tryz.f6.params[j]? = some t → args[j]? = some v → Value.okWide Tryz.prog W .any base t v := hval0
  have hW' := hW
  obtain ⟨p, q, hA0, hV, rfl, hfz, hnd⟩ := hW
  have hA : DataW.TrodAll enc Tryz.prog W 0 (fun _ => true) true Tryz.f6.params.toList args.toList ds p := hA0
  rw [Tryz.params6] at hA hval
  obtain ⟨v0, vs0, d0, ds0, p0, q0, hargs, rfl, rfl, h0, r0⟩ := trodAll_cons hA
  obtain ⟨rfl, rfl, rfl⟩ := trodAll_nil r0
  obtain rfl : args = #[v0] := by cases args; simp_all
  obtain ⟨rfl, rfl⟩ := trodVars_none hV
  obtain ⟨a0, len0, cap0, rfl⟩ := okWide_slice Tryz.underlying42 (hval 0 42 v0 rfl rfl)
  have k0 := h0
  have lt0 : ∀ x ∈ p0, x.block < W.heap.size := by obtain ⟨m, hm⟩ := k0; exact DataW.trod_lt m _ _ _ hm
  obtain ⟨ss0, y0, w0⟩ := Jrn.open_jdeeds h0
  subst y0
  clear hA0 hval0
  refine (walk a0 cap0 ss0 W w0).mono fun e W' ⟨he, bel⟩ => ?_
  subst he
  exact ⟨_, rfl, _, _, _, [], _, [], hW', trodAll_mk1 (shut_bool Tryz.underlying4 _), (trodAll_cons_mk (Below.trod laidOut (by kernel_rfl) (of_decide_eq_true (by kernel_rfl)) k0 bel lt0) trodAll_mk0), rfl, bel.frame _, fun h => by cases h⟩

theorem over : Rows.journalLastsRow.holds Tryz.pinned (OpenSpec.ofChange Rows.journalLastsSpec) :=
  OpenClaim.holds_of_wide 6 Tryz.f6 rfl rfl rfl rfl rfl rfl rfl ⟨rfl, rfl, rfl, rfl, rfl⟩ rfl rfl rfl rfl rfl (by kernel_rfl) Tryz.func6 (by kernel_rfl)
    (of_decide_eq_true (by kernel_rfl)) (by unfold Func.isWrapper; first | (rw [if_pos (by decide +kernel)]; kernel_rfl) | (rw [if_neg (by decide +kernel)]; exact ⟨rfl, rfl⟩))
    (fun os started H enc _ => lifted os started H enc)
end Go.Proofs.YtfmhmokbbkliaaaGreat.journalLasts

namespace Go.Proofs.YtfmhmokbbkliaaaGreat
/-- The statement. -/
theorem journalLasts_holds : Rows.JournalLastsSaid := journalLasts.over
#print axioms journalLasts_holds
end Go.Proofs.YtfmhmokbbkliaaaGreat
