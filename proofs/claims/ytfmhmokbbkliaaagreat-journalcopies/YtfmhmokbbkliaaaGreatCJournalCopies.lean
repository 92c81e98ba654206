/- JournalCopies: for every list of deeds, every epoch: the statement's function returns true; nothing that was there is changed. No condition. -/
import Derived.Test.YtfmhmokbbkliaaaGreatB40
import Derived.Test.YtfmhmokbbkliaaaGreatB38
namespace Go.Proofs.YtfmhmokbbkliaaaGreat.journalCopies
open Go.ChangeShapes Go.WideShapes Go.ChangeAt Go.RowKit Go.Proofs.YtfmhmokbbkliaaaGreat Go.Proofs.YtfmhmokbbkliaaaGreat.Wir Go.Proofs.YtfmhmokbbkliaaaGreat.Lgg Go.Proofs.YtfmhmokbbkliaaaGreat.Sep Go.Proofs.YtfmhmokbbkliaaaGreat.Jrn
open Go.ChangeMaps (open_string shut_string)
set_option linter.unusedVariables false

theorem own : ownKnob Tryz.prog.godebug = none := by kernel_rfl

set_option maxRecDepth 100000 in
set_option maxHeartbeats 8000000 in
theorem walk_b (a0 : Option Addr) (cap0 n0 : Nat) (us : List JDd) (a1 : Int) (w : World) (hn0 : us.length = n0) (hU : JDds w a0 us) (hr : -9223372036854775808 ≤ a1 ∧ a1 ≤ 9223372036854775807) :
    Calls Tryz.prog 8 #[.slice a0 n0 cap0, .int .i64 a1] w fun e w' => e = .returned (.bool true) ∧ Below w.heap.size w w' := by
  have hx1 : n0 ≤ 9223372036854775807 := by have := hU.lie.lid; unfold maxLen at this; omega
  have HN : Hid (us.length = n0) := hn0
  have HU : Hid (JDds w a0 us) := hU
  clear hn0 hU
  have HO : Hid (openQ K0 = (0, K0, nd0)) := open_none 400000
  have hst2 : ∀ (w : World) (a : Addr) (x : Option Addr) (n c : Nat) (m : Mode), (store a (.slice x n c) m).run Tryz.prog w = stored Tryz.prog w a (.slice x n c) m := fun w a x n c m => run_store (P := Tryz.prog) w a _ m rfl
  go_enter Tryz.func8, Tryz.ntmps8
  go_wp2_with fail
  refine (examples15_val _).mono ?_
  rintro e w2 ⟨rfl, b⟩
  have HZ2 : Hid (Hz w (fun _ => False) [] w2) := (hz_none w).below b
  clear b
  go_wp2_with fail
  refine (new_hz HZ2.out 400000 400000 (by omega) (by omega)).mono ?_
  rintro e w3 ⟨jd, rfl, hz⟩
  have HZ3 : Hid (Hz w (fun _ => False) [dsk jd K0] w3) := hz
  clear hz HZ2
  go_wp2_with fail
  refine (open_hz HZ3.out HO.out).mono ?_
  rintro e w4 ⟨jp, rfl, hz⟩
  have HZ4 : Hid (Hz w (fun _ => False) [jr jp jd K0 nd0] w4) := hz
  clear hz HZ3
  go_wp2_with fail
  refine (new_hz HZ4.out 400000 400000 (by omega) (by omega)).mono ?_
  rintro e w5 ⟨kd, rfl, hz⟩
  have HZ5 : Hid (Hz w (fun _ => False) [dsk kd K0, jr jp jd K0 nd0] w5) := hz
  clear hz HZ4
  go_wp2_with fail
  refine (open_hz HZ5.out HO.out).mono ?_
  rintro e w6 ⟨kp, rfl, hz⟩
  have HZ6 : Hid (Hz w (fun _ => False) [jr kp kd K0 nd0, jr jp jd K0 nd0] w6) := hz
  clear hz HZ5 HO
  go_wp2
  go_loopw [10] (fun vi wr => ∃ (k : Nat) (ds : DS) (j : Nd), k ≤ n0 ∧ k ≤ 20 ∧ vi = .int .i64 k ∧ (Dv 0 ds j ∧ ds.fuse = 0) ∧ Hz w (fun _ => False) [jr kp kd K0 nd0, jr jp jd ds j] wr) (fun vi _ => 20 - (intOf vi).toNat)
  case atStart => exact ⟨0, _, nd0, by omega, by omega, rfl, ⟨dv_none, rfl⟩, HZ6.out⟩
  case round =>
    obtain ⟨k, ds, j, hkn, hk20, rfl, hj, hz⟩ := hrel
    have HZ : Hid (Hz w (fun _ => False) [jr kp kd K0 nd0, jr jp jd ds j] wr) := hz
    have HJ : Hid (Dv 0 ds j ∧ ds.fuse = 0) := hj
    clear hz hj HZ6
    by_cases hlt : k < n0 ∧ k < 20
    · obtain ⟨hlt0, hlt1⟩ := hlt
      have hk0 : k < us.length := by rw [HN.out]; exact hlt0
      obtain ⟨ub, uo, hua, hcell⟩ := HU.out.lie.at wideJD hk0
      have hok := HU.out.each _ (List.getElem_mem hk0)
      generalize us[k] = u at *
      subst hua
      obtain ⟨xkd, xue, xea, xec, xes, ⟨xtx, xxd⟩, xraw, xun, xka, xkb, xko, xkc, xks⟩ := u
      have g0 := hcell 0 _ rfl
      have g1 := hcell 1 _ rfl
      have g2 := hcell 2 _ rfl
      have g3 := hcell 3 _ rfl
      have g4 := hcell 4 _ rfl
      have g5 := hcell 5 _ rfl
      have g6 := hcell 6 _ rfl
      have g7 := hcell 7 _ rfl
      simp only [← Nat.add_assoc, Nat.add_zero] at g0 g1 g2 g3 g4 g5 g6 g7
      obtain ⟨m, hm⟩ : ∃ m, xes.length = m := ⟨_, rfl⟩
      obtain ⟨mk2, hmk⟩ : ∃ m, xks.length = m := ⟨_, rfl⟩
      rw [hm] at g2
      rw [hmk] at g7
      have HG : Hid (∀ W, Below w.heap.size w W → W.cell? ⟨ub, uo + k * 8, none⟩ = some (.int .i64 xkd) ∧ W.cell? ⟨ub, uo + k * 8 + 1, none⟩ = some (.int .i64 xue) ∧ W.cell? ⟨ub, uo + k * 8 + 2, none⟩ = some (.slice xea m xec) ∧ W.cell? ⟨ub, uo + k * 8 + 3, none⟩ = some (.int .i64 xtx) ∧ W.cell? ⟨ub, uo + k * 8 + 4, none⟩ = some (.string xxd) ∧ W.cell? ⟨ub, uo + k * 8 + 5, none⟩ = some (.string xraw) ∧ W.cell? ⟨ub, uo + k * 8 + 6, none⟩ = some (.int .i64 xun) ∧ W.cell? ⟨ub, uo + k * 8 + 7, none⟩ = some (.slice xka mk2 xkc)) := fun W hb => ⟨bel_cell hb g0, bel_cell hb g1, bel_cell hb g2, bel_cell hb g3, bel_cell hb g4, bel_cell hb g5, bel_cell hb g6, bel_cell hb g7⟩
      obtain ⟨p1, p2, p3, p3t, p4, p5, p6, p7, p8, p9⟩ := hok
      simp only at p1 p2 p3 p3t p4 p5 p6 p7 p8 p9
      obtain ⟨S, hS⟩ : ∃ S, askT xkd xue xes ⟨xtx, xxd⟩ xraw = S := ⟨_, rfl⟩
      have CA : Hid (∀ W, Below w.heap.size w W → Calls Tryz.prog 29 #[.agg #[.int .i64 xkd, .int .i64 xue, .slice xea m xec, .int .i64 xtx, .string xxd, .string xraw, .int .i64 xun, .slice xka mk2 xkc]] W fun e w' => e = .returned (.string S) ∧ Below W.heap.size W w') := fun W hb => asked_val xkd xue xea m xec xes ⟨xtx, xxd⟩ xraw xun xka mk2 xkc (p3.row.below hb) p3.small p1 p2 p4 hm S hS
      have HS : Hid (S.size ≤ maxLen) := by show S.size ≤ maxLen; rw [← hS]; exact ask_small p5
      clear hcell hm hmk p1 p2 p3 p3t p4 p5 p6 p7 p8 p9 hk0 hS g0 g1 g2 g3 g4 g5 g6 g7
      have hdv := dv_hand HJ.out.1 HJ.out.2 S
      obtain ⟨ds1, hd1⟩ : ∃ d, (handQ ds j S).ds = d := ⟨_, rfl⟩
      obtain ⟨j1, hj1⟩ : ∃ x, (handQ ds j S).j = x := ⟨_, rfl⟩
      rw [hd1, hj1] at hdv
      have HD : Hid (((handQ ds j S).ds = ds1 ∧ (handQ ds j S).j = j1) ∧ Dv 0 ds1 j1 ∧ ds1.fuse = 0) := ⟨⟨hd1, hj1⟩, hdv⟩
      clear hd1 hj1 hdv
      obtain ⟨g0, g1, g2, g3, g4, g5, g6, g7⟩ := HG.out _ (hz_bel HZ.out)
      go_wp2_with fail
      refine (CA.out _ (hz_bel HZ.out)).mono ?_
      rintro e w7 ⟨rfl, b⟩
      have HZ7 : Hid (Hz w (fun _ => False) [jr kp kd K0 nd0, jr jp jd ds j] w7) := HZ.out.below b
      clear b HZ g0 g1 g2 g3 g4 g5 g6 g7
      go_wp2_with fail
      refine (hand_hz HZ7.out 1 rfl HJ.out.1.ok S HS.out _ rfl HD.out.1.2 HD.out.1.1).mono ?_
      rintro e w8 ⟨T, rfl, -, -, hz⟩
      have HZ8 : Hid (Hz w (fun _ => False) [jr kp kd K0 nd0, jr jp jd ds1 j1] w8) := hz
      clear hz HZ7
      go_wp2
      go_roundw
      case rel => exact ⟨k + 1, ds1, j1, by omega, by omega, by go_num, HD.out.2, HZ8.out⟩
      case measure => simp [intOf]; omega
    · have hex : n0 ≤ k ∨ (k < n0 ∧ 20 ≤ k) := by omega
      clear hlt HN HU
      obtain ⟨J0, hJ0⟩ : ∃ J, joinT [pT, numT a1] = J := ⟨_, rfl⟩
      have CPr : Hid (∀ W, Calls Tryz.prog 17 #[.int .i64 a1] W fun e w' => e = .returned (.string J0) ∧ Below W.heap.size W w') := fun W => promise_val a1 hr.1 hr.2 W J0 hJ0
      have HJ0 : Hid (J0.size ≤ maxLen) := by show J0.size ≤ maxLen; rw [← hJ0]; exact join_small
      obtain ⟨q, hq⟩ : ∃ q, handE ds j J0 = q := ⟨_, rfl⟩
      obtain ⟨T, hT⟩ : ∃ T, (handQ ds j J0).t = T := ⟨_, rfl⟩
      have HTS : Hid (T.size ≤ maxLen) := by show T.size ≤ maxLen; rw [← hT]; exact hand_small _ _ _
      obtain ⟨ds1, hd1⟩ : ∃ d, (handQ ds j J0).ds = d := ⟨_, rfl⟩
      obtain ⟨j1, hj1⟩ : ∃ x, (handQ ds j J0).j = x := ⟨_, rfl⟩
      have HD : Hid ((handQ ds j J0).t = T ∧ (handQ ds j J0).j = j1 ∧ (handQ ds j J0).ds = ds1) := ⟨hT, hj1, hd1⟩
      have HOK1 : Hid (NdOk j1) := by show NdOk j1; rw [← hj1]; exact handQ_ok HJ.out.1.ok J0
      by_cases h0 : q = 0
      · subst h0
        have hcy := copy_yes HJ.out.1 hr.1 hr.2 (by rw [hJ0]; exact hq)
        rw [hJ0, hT, hj1] at hcy
        obtain ⟨⟨le, es⟩, hjl⟩ : ∃ l, j.l = l := ⟨_, rfl⟩
        rw [hjl] at hcy
        simp only at hcy
        obtain ⟨u1, u2, u3, u4, u5⟩ := hcy
        subst u2
        obtain ⟨J1, hJ1⟩ : ∃ J, joinT (accTs a1 es) = J := ⟨_, rfl⟩
        rw [hJ1] at u4 u5
        obtain ⟨m1, hm1⟩ : ∃ m, es.length = m := ⟨_, rfl⟩
        have HM1 : Hid (es.length = m1) := hm1
        have hm300 : m1 ≤ 300 := by rw [← hm1]; exact u3.2.1
        have CT : Hid (∀ W, Calls Tryz.prog 14 #[.string T] W fun e w' => LgE W.heap.size ⟨le, es⟩ 0 e w' ∧ Below W.heap.size W w') := fun W => by have := told_val T HTS.out W; rw [u1] at this; exact this
        obtain ⟨dk1, hdk⟩ : ∃ d, (handQ K0 nd0 J1).ds = d := ⟨_, rfl⟩
        have HKK : Hid (handE K0 nd0 J1 = 0 ∧ (handQ K0 nd0 J1).j = ⟨a1, ⟨a1, es⟩, false⟩ ∧ (handQ K0 nd0 J1).ds = dk1) := ⟨u4, u5, hdk⟩
        have HK1 : Hid (NdOk ⟨a1, ⟨a1, es⟩, false⟩ ∧ RtL ⟨a1, es⟩ ∧ J1.size ≤ maxLen ∧ joinT (accTs a1 es) = J1) := ⟨by rw [← u5]; exact handQ_ok nd0_ok J1, u3, by rw [← hJ1]; exact join_small, hJ1⟩
        clear u1 u3 u4 u5 hdk hJ1 hm1 hjl hq hT hd1 hj1 hJ0
        rcases hex with c1 | ⟨c1, c2⟩
        all_goals
          go_wp2_with fail
          refine (CPr.out _).mono ?_
          rintro e w7 ⟨rfl, b⟩
          have HZ7 : Hid (Hz w (fun _ => False) [jr kp kd K0 nd0, jr jp jd ds j] w7) := HZ.out.below b
          clear b HZ
          go_wp2_with fail
          refine (hand_hzT HZ7.out 1 rfl HJ.out.1.ok J0 HJ0.out T HD.out.1 HD.out.2.1 HD.out.2.2).mono ?_
          rintro e w8 ⟨rfl, hz⟩
          have HZ8 : Hid (Hz w (fun _ => False) [jr kp kd K0 nd0, jr jp jd ds1 ⟨a1, ⟨le, es⟩, false⟩] w8) := hz
          clear hz HZ7
          go_wp2_with fail
          refine (CT.out _).mono ?_
          rintro e w9 ⟨⟨a, c, g, hx, hC⟩, b⟩
          simp only [HM1.out] at hx hC
          subst hx
          have HZ9 : Hid (Hz w (fun _ => False) [celT 2 (.slice a m1 c) m1 (rowC enC es) g, jr kp kd K0 nd0, jr jp jd ds1 ⟨a1, ⟨le, es⟩, false⟩] w9) := put_cel HZ8.out b hC
          clear hC b HZ8
          go_upto_region 11 with fail
          have HZA : Hid (Hz w (fun _ => False) [box w9.heap.size [.int .i64 le, .slice a m1 c], celT 2 (.slice a m1 c) m1 (rowC enC es) g, jr kp kd K0 nd0, jr jp jd ds1 ⟨a1, ⟨le, es⟩, false⟩] (w9.alloc (.cells #[.int .i64 le, .slice a m1 c] 34))) := HZ9.out.box [.int .i64 le, .slice a m1 c] _
          clear HZ9
          generalize w9.alloc (.cells #[.int .i64 le, .slice a m1 c] 34) = wA at *
          generalize w9.heap.size = B1 at *
          have x1 := HZA.out.cell 0 rfl (j := 1) rfl
          go_wp2_with fail
          obtain ⟨O1, l1⟩ := cel_lie HZA.out 1 rfl HM1.out
          refine (accept_yes l1 a1 m1 c HM1.out HK1.out.2.1 J1 HK1.out.2.2.2).mono ?_
          rintro e wB ⟨rfl, b⟩
          have HZB : Hid (Hz w (fun _ => False) [box B1 [.int .i64 le, .slice a m1 c], celT 2 (.slice a m1 c) m1 (rowC enC es) g, jr kp kd K0 nd0, jr jp jd ds1 ⟨a1, ⟨le, es⟩, false⟩] wB) := HZA.out.below b
          clear b HZA x1 l1
          go_wp2_with fail
          refine (hand_hz HZB.out 2 rfl nd0_ok J1 HK1.out.2.2.1 0 HKK.out.1 HKK.out.2.1 HKK.out.2.2).mono ?_
          rintro e wC ⟨T2, rfl, hT2, hTq, hz⟩
          have HZC : Hid (Hz w (fun _ => False) [box B1 [.int .i64 le, .slice a m1 c], celT 2 (.slice a m1 c) m1 (rowC enC es) g, jr kp kd dk1 ⟨a1, ⟨a1, es⟩, false⟩, jr jp jd ds1 ⟨a1, ⟨le, es⟩, false⟩] wC) := hz
          clear hz HZB
          go_wp2_with fail
          refine (said_val T2 hT2 0 hTq _).mono ?_
          rintro e wD ⟨rfl, b⟩
          have HZD : Hid (Hz w (fun _ => False) [box B1 [.int .i64 le, .slice a m1 c], celT 2 (.slice a m1 c) m1 (rowC enC es) g, jr kp kd dk1 ⟨a1, ⟨a1, es⟩, false⟩, jr jp jd ds1 ⟨a1, ⟨le, es⟩, false⟩] wD) := HZC.out.below b
          clear b HZC hT2 hTq
          go_wp2_with fail
          refine (log_hz HZD.out 3 rfl HOK1.out).mono ?_
          rintro e wE ⟨⟨a2, c2, g2, hx, hC⟩, b⟩
          simp only [HM1.out] at hx hC
          subst hx
          have HZE : Hid (Hz w (fun _ => False) [celT 2 (.slice a2 m1 c2) m1 (rowC enC es) g2, box B1 [.int .i64 le, .slice a m1 c], celT 2 (.slice a m1 c) m1 (rowC enC es) g, jr kp kd dk1 ⟨a1, ⟨a1, es⟩, false⟩, jr jp jd ds1 ⟨a1, ⟨le, es⟩, false⟩] wE) := put_cel HZD.out b hC
          clear hC b HZD
          go_upto_region 16 with fail
          have HZF : Hid (Hz w (fun _ => False) [box wE.heap.size [.int .i64 le, .slice a2 m1 c2], celT 2 (.slice a2 m1 c2) m1 (rowC enC es) g2, box B1 [.int .i64 le, .slice a m1 c], celT 2 (.slice a m1 c) m1 (rowC enC es) g, jr kp kd dk1 ⟨a1, ⟨a1, es⟩, false⟩, jr jp jd ds1 ⟨a1, ⟨le, es⟩, false⟩] (wE.alloc (.cells #[.int .i64 le, .slice a2 m1 c2] 34))) := HZE.out.box [.int .i64 le, .slice a2 m1 c2] _
          clear HZE
          generalize wE.alloc (.cells #[.int .i64 le, .slice a2 m1 c2] 34) = wF at *
          generalize wE.heap.size = B2 at *
          go_wp2_with fail
          refine (log_hz HZF.out 4 rfl HK1.out.1).mono ?_
          rintro e wG ⟨⟨a3, c3, g3, hx, hC⟩, b⟩
          simp only [HM1.out] at hx hC
          subst hx
          have HZG : Hid (Hz w (fun _ => False) [celT 2 (.slice a3 m1 c3) m1 (rowC enC es) g3, box B2 [.int .i64 le, .slice a2 m1 c2], celT 2 (.slice a2 m1 c2) m1 (rowC enC es) g2, box B1 [.int .i64 le, .slice a m1 c], celT 2 (.slice a m1 c) m1 (rowC enC es) g, jr kp kd dk1 ⟨a1, ⟨a1, es⟩, false⟩, jr jp jd ds1 ⟨a1, ⟨le, es⟩, false⟩] wG) := put_cel HZF.out b hC
          clear hC b HZF
          go_upto_region 17 with fail
          have HZH : Hid (Hz w (fun _ => False) [box wG.heap.size [.int .i64 a1, .slice a3 m1 c3], celT 2 (.slice a3 m1 c3) m1 (rowC enC es) g3, box B2 [.int .i64 le, .slice a2 m1 c2], celT 2 (.slice a2 m1 c2) m1 (rowC enC es) g2, box B1 [.int .i64 le, .slice a m1 c], celT 2 (.slice a m1 c) m1 (rowC enC es) g, jr kp kd dk1 ⟨a1, ⟨a1, es⟩, false⟩, jr jp jd ds1 ⟨a1, ⟨le, es⟩, false⟩] (wG.alloc (.cells #[.int .i64 a1, .slice a3 m1 c3] 34))) := HZG.out.box [.int .i64 a1, .slice a3 m1 c3] _
          clear HZG
          generalize wG.alloc (.cells #[.int .i64 a1, .slice a3 m1 c3] 34) = wH at *
          generalize wG.heap.size = B3 at *
          have x0 := HZH.out.cell 4 rfl (j := 0) rfl
          have y0 := HZH.out.cell 2 rfl (j := 0) rfl
          have y1 := HZH.out.cell 2 rfl (j := 1) rfl
          have z0 := HZH.out.cell 0 rfl (j := 0) rfl
          have z1 := HZH.out.cell 0 rfl (j := 1) rfl
          have CB : Hid (Calls Tryz.prog 40 #[.slice a2 m1 c2, .slice a3 m1 c3] wH fun e w' => e = .returned (.bool true) ∧ Below wH.heap.size wH w') := by
            obtain ⟨O2, l2⟩ := cel_lie HZH.out 3 rfl HM1.out
            obtain ⟨O3, l3⟩ := cel_lie HZH.out 1 rfl HM1.out
            exact begins15_val l2 l3 _ _ _ _ HM1.out HM1.out true ⟨fun _ => List.take_length, fun _ => rfl⟩
          go_wp2_with (first
            | (go_at_call 40; refine CB.out.mono ?_; rintro e wI ⟨rfl, b⟩; have HZI : Hid (Hz w (fun _ => False) [box B3 [.int .i64 a1, .slice a3 m1 c3], celT 2 (.slice a3 m1 c3) m1 (rowC enC es) g3, box B2 [.int .i64 le, .slice a2 m1 c2], celT 2 (.slice a2 m1 c2) m1 (rowC enC es) g2, box B1 [.int .i64 le, .slice a m1 c], celT 2 (.slice a m1 c) m1 (rowC enC es) g, jr kp kd dk1 ⟨a1, ⟨a1, es⟩, false⟩, jr jp jd ds1 ⟨a1, ⟨le, es⟩, false⟩] wI) := HZH.out.below b; clear b x0 y0 y1 z0 z1 HZH; have x0 := HZI.out.cell 4 rfl (j := 0) rfl; have y0 := HZI.out.cell 2 rfl (j := 0) rfl; have y1 := HZI.out.cell 2 rfl (j := 1) rfl; have z0 := HZI.out.cell 0 rfl (j := 0) rfl; have z1 := HZI.out.cell 0 rfl (j := 1) rfl)
            | (go_at_call 39; refine (promised_hz HZI.out 6 rfl).mono ?_; rintro e wJ ⟨hx, hwy⟩; have hx2 : e = .returned (.int .i64 a1) := hx; subst hx2; have hwz := hwy.symm; subst hwz; clear hwy hx))
          go_ret
          exact ⟨rfl, hz_bel HZI.out⟩
      · have hno := copy_no HJ.out.1 HJ.out.2 hr.1 hr.2 (by rw [hJ0, hq]; exact h0)
        rw [hJ0, hj1] at hno
        have herr : (toldP T).2 = q := by rw [← hT, ← hq]; exact hand_err HJ.out.1.ok J0
        obtain ⟨⟨⟨le, es⟩, er⟩, htp⟩ : ∃ x, toldP T = x := ⟨_, rfl⟩
        rw [htp] at herr
        replace herr : er = q := herr
        subst herr
        have CT : Hid (∀ W, Calls Tryz.prog 14 #[.string T] W fun e w' => LgE W.heap.size ⟨le, es⟩ er e w' ∧ Below W.heap.size W w') := fun W => by have := told_val T HTS.out W; rw [htp] at this; exact this
        have hbq : (er == 0) = false := beq_eq_false_iff_ne.2 h0
        obtain ⟨m1, hm1⟩ : ∃ m, es.length = m := ⟨_, rfl⟩
        have HM1 : Hid (es.length = m1) := hm1
        obtain ⟨P1, hP1⟩ : ∃ p, j1.p = p := ⟨_, rfl⟩
        rw [hP1] at hno
        have HP1 : Hid (j1.p = P1) := hP1
        clear hq hT hd1 hj1 hJ0 htp hm1 hP1
        have hcs : a1 ≤ P1 ∨ (P1 < a1 ∧ 9007199254740991 < a1) := by omega
        clear hno
        rcases hcs with d1 | ⟨d1, d2⟩
        all_goals
          rcases hex with c1 | ⟨c1, c2⟩
          all_goals
            go_wp2_with fail
            refine (CPr.out _).mono ?_
            rintro e w7 ⟨rfl, b⟩
            have HZ7 : Hid (Hz w (fun _ => False) [jr kp kd K0 nd0, jr jp jd ds j] w7) := HZ.out.below b
            clear b HZ
            go_wp2_with fail
            refine (hand_hzT HZ7.out 1 rfl HJ.out.1.ok J0 HJ0.out T HD.out.1 HD.out.2.1 HD.out.2.2).mono ?_
            rintro e w8 ⟨rfl, hz⟩
            have HZ8 : Hid (Hz w (fun _ => False) [jr kp kd K0 nd0, jr jp jd ds1 j1] w8) := hz
            clear hz HZ7
            go_wp2_with fail
            refine (CT.out _).mono ?_
            rintro e w9 ⟨⟨a, c, g, hx, hC⟩, b⟩
            simp only [HM1.out] at hx hC
            subst hx
            have HZ9 : Hid (Hz w (fun _ => False) [jr kp kd K0 nd0, jr jp jd ds1 j1] w9) := HZ8.out.below b
            clear hC b HZ8
            go_upto_region 11 with fail
            have HZA : Hid (Hz w (fun _ => False) [jr kp kd K0 nd0, jr jp jd ds1 j1] (w9.alloc (.cells #[.int .i64 le, .slice a m1 c] 34))) := HZ9.out.below (bel_al _ _)
            clear HZ9
            generalize w9.alloc (.cells #[.int .i64 le, .slice a m1 c] 34) = wA at *
            go_wp2_with (go_at_call 39; refine (promised_hz HZA.out 1 rfl).mono ?_; rintro e wJ ⟨hx, hwy⟩; rw [HP1.out] at hx; subst hx; have hwz := hwy.symm; subst hwz; clear hwy)
            go_ret
            exact ⟨rfl, hz_bel HZA.out⟩

theorem walk (a0 : Option Addr) (cap0 : Nat) (us : List JDd) (a1 : Int) (w : World) (w0 : JDds w a0 us) (w1 : (Lit.int .i64 a1).wf = true) :
    Calls Tryz.prog 8 #[.slice a0 us.length cap0, .int .i64 a1] w fun e w' => e = .returned (.bool true) ∧ Below w.heap.size w w' :=
  walk_b a0 cap0 _ us a1 w rfl w0 (bounds_i64 w1)

set_option maxRecDepth 100000 in
theorem lifted (os : Os) (started : os.Started) (H : Type) (enc : TypeId × Value → H) :
    ReturnsInHanded {} Tryz.checked os 8 .any (Rows.journalCopiesSpec.pre6 enc Tryz.prog Tryz.f8 Rows.journalCopiesRow.domain false) (Rows.journalCopiesSpec.post enc Tryz.prog Tryz.f8 false true false false) := by
  refine returnsInHanded_of_change (C := Tryz.checked) own started (by kernel_rfl) Tryz.func8
    (ChangeSpec.witness6 (enc := enc) (C := Tryz.checked) false ⟨#[], #[.slice none 0 0, .int .i64 0], []⟩ 8 (by kernel_rfl) (by kernel_rfl) (by kernel_rfl) (by kernel_rfl)) ?_
  intro W base args ds gs before hval0 hW hcnd _
  have hval : ∀ (j : Nat) t v, Tryz.f8.params[j]? = some t → args[j]? = some v → Value.okWide Tryz.prog W .any base t v := hval0
  have hW' := hW
  obtain ⟨p, q, hA0, hV, rfl, hfz, hnd⟩ := hW
  have hA : DataW.TrodAll enc Tryz.prog W 0 (fun _ => true) true Tryz.f8.params.toList args.toList ds p := hA0
  rw [Tryz.params8] at hA hval
  obtain ⟨v0, vs0, d0, ds0, p0, q0, hargs, rfl, rfl, h0, r0⟩ := trodAll_cons hA
  obtain ⟨v1, vs1, d1, ds1, p1, q1, rfl, rfl, rfl, h1, r1⟩ := trodAll_cons r0
  obtain ⟨rfl, rfl, rfl⟩ := trodAll_nil r1
  obtain rfl : args = #[v0, v1] := by cases args; simp_all
  obtain ⟨rfl, rfl⟩ := trodVars_none hV
  obtain ⟨a0, len0, cap0, rfl⟩ := okWide_slice Tryz.underlying42 (hval 0 42 v0 rfl rfl)
  have k0 := h0
  have lt0 : ∀ x ∈ p0, x.block < W.heap.size := by obtain ⟨m, hm⟩ := k0; exact DataW.trod_lt m _ _ _ hm
  obtain ⟨ss0, y0, w0⟩ := Jrn.open_jdeeds h0
  subst y0
  obtain ⟨a1, rfl, rfl, rfl, w1⟩ := open_int Tryz.underlying3 (hval 1 3 v1 rfl rfl) h1
  clear hA0 hval0
  refine (walk a0 cap0 ss0 a1 W w0 w1).mono fun e W' ⟨he, bel⟩ => ?_
  subst he
  exact ⟨_, rfl, _, _, _, [], _, [], hW', trodAll_mk1 (shut_bool Tryz.underlying4 _), (trodAll_cons_mk (Below.trod laidOut (by kernel_rfl) (of_decide_eq_true (by kernel_rfl)) k0 bel lt0) (trodAll_cons_mk (shut_int Tryz.underlying3 w1) trodAll_mk0)), rfl, bel.frame _, fun h => by cases h⟩

theorem over : Rows.journalCopiesRow.holds Tryz.pinned (OpenSpec.ofChange Rows.journalCopiesSpec) :=
  OpenClaim.holds_of_wide 8 Tryz.f8 rfl rfl rfl rfl rfl rfl rfl ⟨rfl, rfl, rfl, rfl, rfl⟩ rfl rfl rfl rfl rfl (by kernel_rfl) Tryz.func8 (by kernel_rfl)
    (of_decide_eq_true (by kernel_rfl)) (by unfold Func.isWrapper; first | (rw [if_pos (by decide +kernel)]; kernel_rfl) | (rw [if_neg (by decide +kernel)]; exact ⟨rfl, rfl⟩))
    (fun os started H enc _ => lifted os started H enc)
end Go.Proofs.YtfmhmokbbkliaaaGreat.journalCopies

namespace Go.Proofs.YtfmhmokbbkliaaaGreat
/-- The statement. -/
theorem journalCopies_holds : Rows.JournalCopiesSaid := journalCopies.over
#print axioms journalCopies_holds
end Go.Proofs.YtfmhmokbbkliaaaGreat
