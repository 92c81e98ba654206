/- JournalFences: for every list of deeds, every epoch, every deed: the statement's function returns true; nothing that was there is changed. No condition. -/
import Derived.Test.YtfmhmokbbkliaaaGreatB40
import Derived.Test.YtfmhmokbbkliaaaGreatB38
namespace Go.Proofs.YtfmhmokbbkliaaaGreat.journalFences
open Go.ChangeShapes Go.WideShapes Go.ChangeAt Go.RowKit Go.Proofs.YtfmhmokbbkliaaaGreat Go.Proofs.YtfmhmokbbkliaaaGreat.Wir Go.Proofs.YtfmhmokbbkliaaaGreat.Lgg Go.Proofs.YtfmhmokbbkliaaaGreat.Sep Go.Proofs.YtfmhmokbbkliaaaGreat.Jrn
open Go.ChangeMaps (open_string shut_string)
set_option linter.unusedVariables false

theorem own : ownKnob Tryz.prog.godebug = none := by kernel_rfl

set_option maxRecDepth 100000 in
set_option maxHeartbeats 8000000 in
theorem walk_b (a0 : Option Addr) (cap0 n0 : Nat) (us : List JDd) (a1 : Int) (lt : JDd) (w : World) (hn0 : us.length = n0) (hU : JDds w a0 us) (hr : -9223372036854775808 ≤ a1 ∧ a1 ≤ 9223372036854775807) (hL : JDdQ w lt) :
    Calls Tryz.prog 7 #[.slice a0 n0 cap0, .int .i64 a1, .agg #[.int .i64 lt.kd, .int .i64 lt.ep, .slice lt.ea lt.es.length lt.ec, .int .i64 lt.x.tx, .string lt.x.d, .string lt.raw, .int .i64 lt.n, .slice lt.ka lt.ks.length lt.kc]] w fun e w' => e = .returned (.bool true) ∧ Below w.heap.size w w' := by
  have hx1 : n0 ≤ 9223372036854775807 := by have := hU.lie.lid; unfold maxLen at this; omega
  have HN : Hid (us.length = n0) := hn0
  have HU : Hid (JDds w a0 us) := hU
  clear hn0 hU
  obtain ⟨kd, ue, ea, ec, ues, ⟨tx, xd⟩, raw, un, ka, kb, ko, kc, ks⟩ := lt
  obtain ⟨q1, q2, q3, q3t, q4, q5, q6, q7, q8, q9⟩ := hL
  simp only at q1 q2 q3 q3t q4 q5 q6 q7 q8 q9 ⊢
  obtain ⟨em, hem⟩ : ∃ m, ues.length = m := ⟨_, rfl⟩
  obtain ⟨mk, hmk⟩ : ∃ m, ks.length = m := ⟨_, rfl⟩
  rw [hem, hmk]
  have HQ : Hid (LgIn w ea ues ∧ xd.size ≤ maxLen ∧ raw.size ≤ maxLen ∧ ues.length = em) := ⟨q3, q4, q5, hem⟩
  have HK : Hid (-9223372036854775808 ≤ kd ∧ kd ≤ 9223372036854775807) := q1
  have HZ0 : Hid (Hz w (fun _ => False) [box w.heap.size [.int .i64 kd, .int .i64 ue, .slice ea em ec, .int .i64 tx, .string xd, .string raw, .int .i64 un, .slice ka mk kc]] (w.alloc (.cells #[.int .i64 kd, .int .i64 ue, .slice ea em ec, .int .i64 tx, .string xd, .string raw, .int .i64 un, .slice ka mk kc] 55))) := (hz_none w).box [.int .i64 kd, .int .i64 ue, .slice ea em ec, .int .i64 tx, .string xd, .string raw, .int .i64 un, .slice ka mk kc] _
  have HO : Hid (openQ ⟨400000, 0, false, []⟩ = (0, ⟨400000, 0, false, []⟩, nd0)) := open_none 400000
  clear q1 q3 q3t q4 q5 q6 q7 q8 q9 hem hmk
  have hst2 : ∀ (w : World) (a : Addr) (x : Option Addr) (n c : Nat) (m : Mode), (store a (.slice x n c) m).run Tryz.prog w = stored Tryz.prog w a (.slice x n c) m := fun w a x n c m => run_store (P := Tryz.prog) w a _ m rfl
  go_enter Tryz.func7, Tryz.ntmps7
  go_upto_region 1 with fail
  obtain ⟨R, hR⟩ : ∃ R, w.heap.size = R := ⟨_, rfl⟩
  have HZ1 : Hid (Hz w (fun _ => False) [box R [.int .i64 kd, .int .i64 ue, .slice ea em ec, .int .i64 tx, .string xd, .string raw, .int .i64 un, .slice ka mk kc]] (w.alloc (.cells #[.int .i64 kd, .int .i64 ue, .slice ea em ec, .int .i64 tx, .string xd, .string raw, .int .i64 un, .slice ka mk kc] 55))) := by rw [← hR]; exact HZ0.out
  clear HZ0
  try rw [hR]
  clear hR
  generalize w.alloc (.cells #[.int .i64 kd, .int .i64 ue, .slice ea em ec, .int .i64 tx, .string xd, .string raw, .int .i64 un, .slice ka mk kc] 55) = W1 at *
  go_wp2_with fail
  refine (examples15_val _).mono ?_
  rintro e w2 ⟨rfl, b⟩
  have HZ2 : Hid (Hz w (fun _ => False) [box R [.int .i64 kd, .int .i64 ue, .slice ea em ec, .int .i64 tx, .string xd, .string raw, .int .i64 un, .slice ka mk kc]] w2) := HZ1.out.below b
  clear b HZ1
  go_wp2_with fail
  refine (new_hz HZ2.out 400000 400000 (by omega) (by omega)).mono ?_
  rintro e w3 ⟨jd, rfl, hz⟩
  have HZ3 : Hid (Hz w (fun _ => False) [dsk jd ⟨400000, 0, false, []⟩, box R [.int .i64 kd, .int .i64 ue, .slice ea em ec, .int .i64 tx, .string xd, .string raw, .int .i64 un, .slice ka mk kc]] w3) := hz
  clear hz HZ2
  go_wp2_with fail
  refine (open_hz HZ3.out HO.out).mono ?_
  rintro e w4 ⟨jp, rfl, hz⟩
  have HZ4 : Hid (Hz w (fun _ => False) [jr jp jd ⟨400000, 0, false, []⟩ nd0, box R [.int .i64 kd, .int .i64 ue, .slice ea em ec, .int .i64 tx, .string xd, .string raw, .int .i64 un, .slice ka mk kc]] w4) := hz
  clear hz HZ3 HO
  go_wp2
  go_loopw [10] (fun vi wr => ∃ (k : Nat) (ds : DS) (j : Nd), k ≤ n0 ∧ k ≤ 20 ∧ vi = .int .i64 k ∧ NdOk j ∧ Hz w (fun _ => False) [jr jp jd ds j, box R [.int .i64 kd, .int .i64 ue, .slice ea em ec, .int .i64 tx, .string xd, .string raw, .int .i64 un, .slice ka mk kc]] wr) (fun vi _ => 20 - (intOf vi).toNat)
  case atStart => exact ⟨0, _, nd0, by omega, by omega, rfl, nd0_ok, HZ4.out⟩
  case round =>
    obtain ⟨k, ds, j, hkn, hk20, rfl, hj, hz⟩ := hrel
    have HZ : Hid (Hz w (fun _ => False) [jr jp jd ds j, box R [.int .i64 kd, .int .i64 ue, .slice ea em ec, .int .i64 tx, .string xd, .string raw, .int .i64 un, .slice ka mk kc]] wr) := hz
    have HJ : Hid (NdOk j) := hj
    clear hz hj HZ4
    by_cases hlt : k < n0 ∧ k < 20
    · obtain ⟨hlt0, hlt1⟩ := hlt
      clear HQ HK q2
      have hk0 : k < us.length := by rw [HN.out]; exact hlt0
      obtain ⟨ub, uo, hua, hcell⟩ := HU.out.lie.at wideJD hk0
      have hok := HU.out.each _ (List.getElem_mem hk0)
      generalize us[k] = u at *
      subst hua
      obtain ⟨xkd, xue, xea, xec, xes, ⟨xtx, xxd⟩, xraw, xun, xka, xkb, xko, xkc, xks⟩ := u
      have g0 := hcell 0 _ rfl
      have g1 := hcell 1 _ rfl
      have g2 := hcell 2 _ rfl
      have g3 := hcell 3 _ rfl
      have g4 := hcell 4 _ rfl
      have g5 := hcell 5 _ rfl
      have g6 := hcell 6 _ rfl
      have g7 := hcell 7 _ rfl
      simp only [← Nat.add_assoc, Nat.add_zero] at g0 g1 g2 g3 g4 g5 g6 g7
      obtain ⟨m, hm⟩ : ∃ m, xes.length = m := ⟨_, rfl⟩
      obtain ⟨mk2, hmk⟩ : ∃ m, xks.length = m := ⟨_, rfl⟩
      rw [hm] at g2
      rw [hmk] at g7
      have HG : Hid (∀ W, Below w.heap.size w W → W.cell? ⟨ub, uo + k * 8, none⟩ = some (.int .i64 xkd) ∧ W.cell? ⟨ub, uo + k * 8 + 1, none⟩ = some (.int .i64 xue) ∧ W.cell? ⟨ub, uo + k * 8 + 2, none⟩ = some (.slice xea m xec) ∧ W.cell? ⟨ub, uo + k * 8 + 3, none⟩ = some (.int .i64 xtx) ∧ W.cell? ⟨ub, uo + k * 8 + 4, none⟩ = some (.string xxd) ∧ W.cell? ⟨ub, uo + k * 8 + 5, none⟩ = some (.string xraw) ∧ W.cell? ⟨ub, uo + k * 8 + 6, none⟩ = some (.int .i64 xun) ∧ W.cell? ⟨ub, uo + k * 8 + 7, none⟩ = some (.slice xka mk2 xkc)) := fun W hb => ⟨bel_cell hb g0, bel_cell hb g1, bel_cell hb g2, bel_cell hb g3, bel_cell hb g4, bel_cell hb g5, bel_cell hb g6, bel_cell hb g7⟩
      obtain ⟨p1, p2, p3, p3t, p4, p5, p6, p7, p8, p9⟩ := hok
      simp only at p1 p2 p3 p3t p4 p5 p6 p7 p8 p9
      obtain ⟨S, hS⟩ : ∃ S, askT xkd xue xes ⟨xtx, xxd⟩ xraw = S := ⟨_, rfl⟩
      have CA : Hid (∀ W, Below w.heap.size w W → Calls Tryz.prog 29 #[.agg #[.int .i64 xkd, .int .i64 xue, .slice xea m xec, .int .i64 xtx, .string xxd, .string xraw, .int .i64 xun, .slice xka mk2 xkc]] W fun e w' => e = .returned (.string S) ∧ Below W.heap.size W w') := fun W hb => asked_val xkd xue xea m xec xes ⟨xtx, xxd⟩ xraw xun xka mk2 xkc (p3.row.below hb) p3.small p1 p2 p4 hm S hS
      have HS : Hid (S.size ≤ maxLen) := by show S.size ≤ maxLen; rw [← hS]; exact ask_small p5
      clear hcell hm hmk p1 p2 p3 p3t p4 p5 p6 p7 p8 p9 hk0 hS g0 g1 g2 g3 g4 g5 g6 g7
      obtain ⟨ds1, hd1⟩ : ∃ d, (handQ ds j S).ds = d := ⟨_, rfl⟩
      have hok1 := handQ_ok (ds := ds) HJ.out S
      have htw := hand_twice ds j S
      rw [hd1] at htw
      obtain ⟨⟨p, ⟨le, es⟩, gn⟩, hj1⟩ : ∃ x, (handQ ds j S).j = x := ⟨_, rfl⟩
      rw [hj1] at hok1 htw
      have H1 : Hid (NdOk ⟨p, ⟨le, es⟩, gn⟩) := hok1
      have HD : Hid ((handQ ds j S).ds = ds1 ∧ (handQ ds j S).j = ⟨p, ⟨le, es⟩, gn⟩ ∧ (handQ ds1 ⟨p, ⟨le, es⟩, gn⟩ S).j = ⟨p, ⟨le, es⟩, gn⟩) := ⟨hd1, hj1, htw⟩
      obtain ⟨ds2, hd2⟩ : ∃ d, (handQ ds1 ⟨p, ⟨le, es⟩, gn⟩ S).ds = d := ⟨_, rfl⟩
      have HD2 : Hid ((handQ ds1 ⟨p, ⟨le, es⟩, gn⟩ S).ds = ds2) := hd2
      obtain ⟨m1, hm1⟩ : ∃ m, es.length = m := ⟨_, rfl⟩
      have HM1 : Hid (es.length = m1) := hm1
      have hm300 : m1 ≤ 300 := by rw [← hm1]; exact H1.out.log.2.1
      clear hd1 hok1 htw hj1 hd2 hm1
      obtain ⟨g0, g1, g2, g3, g4, g5, g6, g7⟩ := HG.out _ (hz_bel HZ.out)
      go_wp2_with fail
      refine (CA.out _ (hz_bel HZ.out)).mono ?_
      rintro e w5 ⟨rfl, b⟩
      have HZ5 : Hid (Hz w (fun _ => False) [jr jp jd ds j, box R [.int .i64 kd, .int .i64 ue, .slice ea em ec, .int .i64 tx, .string xd, .string raw, .int .i64 un, .slice ka mk kc]] w5) := HZ.out.below b
      clear b HZ g0 g1 g2 g3 g4 g5 g6 g7
      go_wp2_with fail
      refine (hand_hz HZ5.out 0 rfl HJ.out S HS.out _ rfl HD.out.2.1 HD.out.1).mono ?_
      rintro e w6 ⟨T, rfl, -, -, hz⟩
      have HZ6 : Hid (Hz w (fun _ => False) [jr jp jd ds1 ⟨p, ⟨le, es⟩, gn⟩, box R [.int .i64 kd, .int .i64 ue, .slice ea em ec, .int .i64 tx, .string xd, .string raw, .int .i64 un, .slice ka mk kc]] w6) := hz
      clear hz HZ5
      go_wp2_with fail
      refine (log_hz HZ6.out 0 rfl H1.out).mono ?_
      rintro e w7 ⟨⟨a, c, g, hx, hC⟩, b⟩
      simp only [HM1.out] at hx hC
      subst hx
      have HZ7 : Hid (Hz w (fun _ => False) [celT 2 (.slice a m1 c) m1 (rowC enC es) g, jr jp jd ds1 ⟨p, ⟨le, es⟩, gn⟩, box R [.int .i64 kd, .int .i64 ue, .slice ea em ec, .int .i64 tx, .string xd, .string raw, .int .i64 un, .slice ka mk kc]] w7) := put_cel HZ6.out b hC
      clear hC b HZ6
      go_upto_region 10 with fail
      have HZ8 : Hid (Hz w (fun _ => False) [box w7.heap.size [.int .i64 le, .slice a m1 c], celT 2 (.slice a m1 c) m1 (rowC enC es) g, jr jp jd ds1 ⟨p, ⟨le, es⟩, gn⟩, box R [.int .i64 kd, .int .i64 ue, .slice ea em ec, .int .i64 tx, .string xd, .string raw, .int .i64 un, .slice ka mk kc]] (w7.alloc (.cells #[.int .i64 le, .slice a m1 c] 34))) := HZ7.out.box [.int .i64 le, .slice a m1 c] _
      clear HZ7
      generalize w7.alloc (.cells #[.int .i64 le, .slice a m1 c] 34) = w8 at *
      generalize w7.heap.size = B1 at *
      go_wp2_with fail
      refine (promised_hz HZ8.out 2 rfl).mono ?_
      rintro e w9 ⟨hx, hwy⟩
      have hx2 : e = .returned (.int .i64 p) := hx
      subst hx2
      have hwz := hwy.symm
      subst hwz
      clear hwy hx
      obtain ⟨g0, g1, g2, g3, g4, g5, g6, g7⟩ := HG.out _ (hz_bel HZ8.out)
      go_wp2_with fail
      refine (CA.out _ (hz_bel HZ8.out)).mono ?_
      rintro e w10 ⟨rfl, b⟩
      have HZ10 : Hid (Hz w (fun _ => False) [box B1 [.int .i64 le, .slice a m1 c], celT 2 (.slice a m1 c) m1 (rowC enC es) g, jr jp jd ds1 ⟨p, ⟨le, es⟩, gn⟩, box R [.int .i64 kd, .int .i64 ue, .slice ea em ec, .int .i64 tx, .string xd, .string raw, .int .i64 un, .slice ka mk kc]] w10) := HZ8.out.below b
      clear b HZ8 g0 g1 g2 g3 g4 g5 g6 g7
      go_wp2_with fail
      refine (hand_hz HZ10.out 2 rfl H1.out S HS.out _ rfl HD.out.2.2 HD2.out).mono ?_
      rintro e w11 ⟨T2, rfl, -, -, hz⟩
      have HZ11 : Hid (Hz w (fun _ => False) [box B1 [.int .i64 le, .slice a m1 c], celT 2 (.slice a m1 c) m1 (rowC enC es) g, jr jp jd ds2 ⟨p, ⟨le, es⟩, gn⟩, box R [.int .i64 kd, .int .i64 ue, .slice ea em ec, .int .i64 tx, .string xd, .string raw, .int .i64 un, .slice ka mk kc]] w11) := hz
      clear hz HZ10
      go_wp2_with fail
      refine (log_hz HZ11.out 2 rfl H1.out).mono ?_
      rintro e w12 ⟨⟨a2, c2, g2, hx, hC⟩, b⟩
      simp only [HM1.out] at hx hC
      subst hx
      have HZ12 : Hid (Hz w (fun _ => False) [celT 2 (.slice a2 m1 c2) m1 (rowC enC es) g2, box B1 [.int .i64 le, .slice a m1 c], celT 2 (.slice a m1 c) m1 (rowC enC es) g, jr jp jd ds2 ⟨p, ⟨le, es⟩, gn⟩, box R [.int .i64 kd, .int .i64 ue, .slice ea em ec, .int .i64 tx, .string xd, .string raw, .int .i64 un, .slice ka mk kc]] w12) := put_cel HZ11.out b hC
      clear hC b HZ11
      go_upto_region 13 with fail
      have HZ13 : Hid (Hz w (fun _ => False) [box w12.heap.size [.int .i64 le, .slice a2 m1 c2], celT 2 (.slice a2 m1 c2) m1 (rowC enC es) g2, box B1 [.int .i64 le, .slice a m1 c], celT 2 (.slice a m1 c) m1 (rowC enC es) g, jr jp jd ds2 ⟨p, ⟨le, es⟩, gn⟩, box R [.int .i64 kd, .int .i64 ue, .slice ea em ec, .int .i64 tx, .string xd, .string raw, .int .i64 un, .slice ka mk kc]] (w12.alloc (.cells #[.int .i64 le, .slice a2 m1 c2] 34))) := HZ12.out.box [.int .i64 le, .slice a2 m1 c2] _
      clear HZ12
      generalize w12.alloc (.cells #[.int .i64 le, .slice a2 m1 c2] 34) = w13 at *
      generalize w12.heap.size = B2 at *
      have y0 := HZ13.out.cell 2 rfl (j := 0) rfl
      have y1 := HZ13.out.cell 2 rfl (j := 1) rfl
      have z0 := HZ13.out.cell 0 rfl (j := 0) rfl
      have z1 := HZ13.out.cell 0 rfl (j := 1) rfl
      have CB : Hid (Calls Tryz.prog 40 #[.slice a2 m1 c2, .slice a m1 c] w13 fun e w' => e = .returned (.bool true) ∧ Below w13.heap.size w13 w') := by
        obtain ⟨O1, l1⟩ := cel_lie HZ13.out 1 rfl HM1.out
        obtain ⟨O2, l2⟩ := cel_lie HZ13.out 3 rfl HM1.out
        exact begins15_val l1 l2 _ _ _ _ HM1.out HM1.out true ⟨fun _ => List.take_length, fun _ => rfl⟩
      go_wp2_with (first
        | (go_at_call 40; refine CB.out.mono ?_; rintro e w14 ⟨rfl, b⟩; have HZ14 : Hid (Hz w (fun _ => False) [box B2 [.int .i64 le, .slice a2 m1 c2], celT 2 (.slice a2 m1 c2) m1 (rowC enC es) g2, box B1 [.int .i64 le, .slice a m1 c], celT 2 (.slice a m1 c) m1 (rowC enC es) g, jr jp jd ds2 ⟨p, ⟨le, es⟩, gn⟩, box R [.int .i64 kd, .int .i64 ue, .slice ea em ec, .int .i64 tx, .string xd, .string raw, .int .i64 un, .slice ka mk kc]] w14) := HZ13.out.below b; clear b y0 y1 z0 z1 HZ13; have y0 := HZ14.out.cell 2 rfl (j := 0) rfl; have y1 := HZ14.out.cell 2 rfl (j := 1) rfl; have z0 := HZ14.out.cell 0 rfl (j := 0) rfl; have z1 := HZ14.out.cell 0 rfl (j := 1) rfl)
        | (go_at_call 39; refine (promised_hz HZ14.out 4 rfl).mono ?_; rintro e w15 ⟨hx, hwy⟩; have hx2 : e = .returned (.int .i64 p) := hx; subst hx2; have hwz := hwy.symm; subst hwz; clear hwy hx))
      go_roundw
      case rel => exact ⟨k + 1, ds2, ⟨p, ⟨le, es⟩, gn⟩, by omega, by omega, by go_num, H1.out, HZ14.out.less.less.less.less⟩
      case measure => simp [intOf]; omega
    · have hex : n0 ≤ k ∨ (k < n0 ∧ 20 ≤ k) := by omega
      clear hlt HN HU
      obtain ⟨J0, hJ0⟩ : ∃ J, joinT [pT, numT a1] = J := ⟨_, rfl⟩
      have CPr : Hid (∀ W, Calls Tryz.prog 17 #[.int .i64 a1] W fun e w' => e = .returned (.string J0) ∧ Below W.heap.size W w') := fun W => promise_val a1 hr.1 hr.2 W J0 hJ0
      have HJ0 : Hid (J0.size ≤ maxLen) := by show J0.size ≤ maxLen; rw [← hJ0]; exact join_small
      obtain ⟨q, hq⟩ : ∃ q, handE ds j J0 = q := ⟨_, rfl⟩
      have HP : Hid (q = 0 → epR a1 = true ∧ (handQ ds j J0).j = ⟨a1, j.l, false⟩) := fun h0 => by
        rw [← hJ0] at hq ⊢
        rw [← hq] at h0
        obtain ⟨u1, _, _, _, u2⟩ := hand_prom hr.1 hr.2 h0
        exact ⟨u1, u2⟩
      have HQ0 : Hid (handE ds j J0 = q) := hq
      obtain ⟨ds1, hd1⟩ : ∃ d, (handQ ds j J0).ds = d := ⟨_, rfl⟩
      have HD1 : Hid ((handQ ds j J0).ds = ds1) := hd1
      clear hd1 hq hJ0
      obtain ⟨j1, hj1⟩ : ∃ x, (handQ ds j J0).j = x := ⟨_, rfl⟩
      rw [hj1] at HP
      have HJ1 : Hid ((handQ ds j J0).j = j1 ∧ NdOk j1) := ⟨hj1, by rw [← hj1]; exact handQ_ok HJ.out J0⟩
      clear hj1
      by_cases h0 : q = 0
      · subst h0
        obtain ⟨v1, v2⟩ := HP.out rfl
        clear HP
        subst v2
        have hb1 := (epR_iff a1).1 v1
        unfold maxN at hb1
        obtain ⟨hb1a, hb1b⟩ := hb1
        obtain ⟨⟨le, es⟩, hjl⟩ : ∃ l, j.l = l := ⟨_, rfl⟩
        rw [hjl] at HJ1
        obtain ⟨m1, hm1⟩ : ∃ m, es.length = m := ⟨_, rfl⟩
        have HM1 : Hid (es.length = m1) := hm1
        have hm300 : m1 ≤ 300 := by rw [← hm1]; exact HJ1.out.2.log.2.1
        clear v1 hjl hm1
        obtain ⟨Qk, hQk⟩ : ∃ Q, keepN kd % 8 = Q := ⟨_, rfl⟩
        have hQ8 : Qk < 8 := by rw [← hQk]; exact Nat.mod_lt _ (by omega)
        have CPk : Hid (∀ W, Calls Tryz.prog 23 #[.int .i64 kd, .int .i64 8] W fun e w' => e = .returned (.int .i64 Qk) ∧ w' = W) := fun W => pick15_val kd 8 Qk W HK.out (by omega) hQk
        have HQk : Hid (keepN kd % 8 = Qk) := hQk
        clear hQk
        have hcs : (a1 ≤ ue ∧ 4 < Qk) ∨ (a1 ≤ ue ∧ Qk ≤ 4) ∨ (ue < a1 ∧ 4 < Qk) ∨ (ue < a1 ∧ Qk ≤ 4) := by omega
        rcases hcs with ⟨hc1, hc2⟩ | ⟨hc1, hc2⟩ | ⟨hc1, hc2⟩ | ⟨hc1, hc2⟩
        · rcases hex with c1 | ⟨c1, c2⟩
          all_goals
            go_wp2_with fail
            refine (CPr.out _).mono ?_
            rintro e w5 ⟨rfl, b⟩
            have HZ5 : Hid (Hz w (fun _ => False) [jr jp jd ds j, box R [.int .i64 kd, .int .i64 ue, .slice ea em ec, .int .i64 tx, .string xd, .string raw, .int .i64 un, .slice ka mk kc]] w5) := HZ.out.below b
            clear b HZ
            go_wp2_with fail
            refine (hand_hz HZ5.out 0 rfl HJ.out J0 HJ0.out 0 HQ0.out HJ1.out.1 HD1.out).mono ?_
            rintro e w6 ⟨T, rfl, hT, hTq, hz⟩
            have HZ6 : Hid (Hz w (fun _ => False) [jr jp jd ds1 ⟨a1, ⟨le, es⟩, false⟩, box R [.int .i64 kd, .int .i64 ue, .slice ea em ec, .int .i64 tx, .string xd, .string raw, .int .i64 un, .slice ka mk kc]] w6) := hz
            clear hz HZ5
            go_wp2_with fail
            refine (said_val T hT 0 hTq _).mono ?_
            rintro e w7 ⟨rfl, b⟩
            have HZ7 : Hid (Hz w (fun _ => False) [jr jp jd ds1 ⟨a1, ⟨le, es⟩, false⟩, box R [.int .i64 kd, .int .i64 ue, .slice ea em ec, .int .i64 tx, .string xd, .string raw, .int .i64 un, .slice ka mk kc]] w7) := HZ6.out.below b
            clear b HZ6 hT hTq
            go_wp2_with fail
            refine (log_hz HZ7.out 0 rfl HJ1.out.2).mono ?_
            rintro e w8 ⟨⟨a, c, g, hx, hC⟩, b⟩
            simp only [HM1.out] at hx hC
            subst hx
            have HZ8 : Hid (Hz w (fun _ => False) [celT 2 (.slice a m1 c) m1 (rowC enC es) g, jr jp jd ds1 ⟨a1, ⟨le, es⟩, false⟩, box R [.int .i64 kd, .int .i64 ue, .slice ea em ec, .int .i64 tx, .string xd, .string raw, .int .i64 un, .slice ka mk kc]] w8) := put_cel HZ7.out b hC
            clear hC b HZ7
            go_upto_region 18 with fail
            have HZ9 : Hid (Hz w (fun _ => False) [box w8.heap.size [.int .i64 le, .slice a m1 c], celT 2 (.slice a m1 c) m1 (rowC enC es) g, jr jp jd ds1 ⟨a1, ⟨le, es⟩, false⟩, box R [.int .i64 kd, .int .i64 ue, .slice ea em ec, .int .i64 tx, .string xd, .string raw, .int .i64 un, .slice ka mk kc]] (w8.alloc (.cells #[.int .i64 le, .slice a m1 c] 34))) := HZ8.out.box [.int .i64 le, .slice a m1 c] _
            clear HZ8
            generalize w8.alloc (.cells #[.int .i64 le, .slice a m1 c] 34) = w9 at *
            generalize w8.heap.size = B1 at *
            have r1 := HZ9.out.cell 3 rfl (j := 1) rfl
            have fr1 := HZ9.out.fr 3 rfl 1
            go_upto_region 20 with fail
            have HZA : Hid (Hz w (fun _ => False) [box B1 [.int .i64 le, .slice a m1 c], celT 2 (.slice a m1 c) m1 (rowC enC es) g, jr jp jd ds1 ⟨a1, ⟨le, es⟩, false⟩, box R [.int .i64 kd, .int .i64 (a1 - 1), .slice ea em ec, .int .i64 tx, .string xd, .string raw, .int .i64 un, .slice ka mk kc]] (w9.setCell ⟨R, 1, none⟩ (.int .i64 (a1 - 1)))) := HZ9.out.setBox 3 rfl 1 (.int .i64 (a1 - 1)) (by simp)
            clear HZ9 r1 fr1
            generalize w9.setCell ⟨R, 1, none⟩ (.int .i64 (a1 - 1)) = wA at *
            have r0 := HZA.out.cell 3 rfl (j := 0) rfl
            have fr0 := HZA.out.fr 3 rfl 0
            go_wp2_with fail
            refine (CPk.out _).mono ?_
            rintro e wB ⟨rfl, hwy⟩
            have hwz := hwy.symm
            subst hwz
            clear hwy
            go_upto_region 22 with fail
            have HZC : Hid (Hz w (fun _ => False) [box B1 [.int .i64 le, .slice a m1 c], celT 2 (.slice a m1 c) m1 (rowC enC es) g, jr jp jd ds1 ⟨a1, ⟨le, es⟩, false⟩, box R [.int .i64 2, .int .i64 (a1 - 1), .slice ea em ec, .int .i64 tx, .string xd, .string raw, .int .i64 un, .slice ka mk kc]] (wA.setCell ⟨R, 0, none⟩ (.int .i64 2))) := HZA.out.setBox 3 rfl 0 (.int .i64 2) (by simp)
            clear HZA r0 fr0
            generalize wA.setCell ⟨R, 0, none⟩ (.int .i64 2) = wC at *
            have r0 := HZC.out.cell 3 rfl (j := 0) rfl
            have r1 := HZC.out.cell 3 rfl (j := 1) rfl
            have r2 := HZC.out.cell 3 rfl (j := 2) rfl
            have r3 := HZC.out.cell 3 rfl (j := 3) rfl
            have r4 := HZC.out.cell 3 rfl (j := 4) rfl
            have r5 := HZC.out.cell 3 rfl (j := 5) rfl
            have r6 := HZC.out.cell 3 rfl (j := 6) rfl
            have r7 := HZC.out.cell 3 rfl (j := 7) rfl
            obtain ⟨S, hS⟩ : ∃ S, askT 2 (a1 - 1) ues ⟨tx, xd⟩ raw = S := ⟨_, rfl⟩
            have CA : Hid (∀ W, Below w.heap.size w W → Calls Tryz.prog 29 #[.agg #[.int .i64 2, .int .i64 (a1 - 1), .slice ea em ec, .int .i64 tx, .string xd, .string raw, .int .i64 un, .slice ka mk kc]] W fun e w' => e = .returned (.string S) ∧ Below W.heap.size W w') := fun W hb => asked_val 2 (a1 - 1) ea em ec ues ⟨tx, xd⟩ raw un ka mk kc (HQ.out.1.row.below hb) HQ.out.1.small (by omega) (by omega) HQ.out.2.1 HQ.out.2.2.2 S hS
            have HS : Hid (S.size ≤ maxLen ∧ (handQ ds1 ⟨a1, ⟨le, es⟩, false⟩ S).j = ⟨a1, ⟨le, es⟩, false⟩) := by
              refine ⟨by rw [← hS]; exact ask_small HQ.out.2.2.1, ?_⟩
              rw [← hS]
              exact hand_old rfl (by decide) (by omega) (by omega) (by show (a1 - 1) < a1; omega)
            obtain ⟨ds2, hd2⟩ : ∃ d, (handQ ds1 ⟨a1, ⟨le, es⟩, false⟩ S).ds = d := ⟨_, rfl⟩
            have HD2 : Hid ((handQ ds1 ⟨a1, ⟨le, es⟩, false⟩ S).ds = ds2) := hd2
            clear hd2 hS
            go_wp2_with fail
            refine (CA.out _ (hz_bel HZC.out)).mono ?_
            rintro e wD ⟨rfl, b⟩
            have HZD : Hid (Hz w (fun _ => False) [box B1 [.int .i64 le, .slice a m1 c], celT 2 (.slice a m1 c) m1 (rowC enC es) g, jr jp jd ds1 ⟨a1, ⟨le, es⟩, false⟩, box R [.int .i64 2, .int .i64 (a1 - 1), .slice ea em ec, .int .i64 tx, .string xd, .string raw, .int .i64 un, .slice ka mk kc]] wD) := HZC.out.below b
            clear b HZC r0 r1 r2 r3 r4 r5 r6 r7
            go_wp2_with fail
            refine (hand_hz HZD.out 2 rfl HJ1.out.2 S HS.out.1 _ rfl HS.out.2 HD2.out).mono ?_
            rintro e wE ⟨T2, rfl, -, -, hz⟩
            have HZE : Hid (Hz w (fun _ => False) [box B1 [.int .i64 le, .slice a m1 c], celT 2 (.slice a m1 c) m1 (rowC enC es) g, jr jp jd ds2 ⟨a1, ⟨le, es⟩, false⟩, box R [.int .i64 2, .int .i64 (a1 - 1), .slice ea em ec, .int .i64 tx, .string xd, .string raw, .int .i64 un, .slice ka mk kc]] wE) := hz
            clear hz HZD
            go_wp2_with fail
            refine (log_hz HZE.out 2 rfl HJ1.out.2).mono ?_
            rintro e wF ⟨⟨a2, c2, g2, hx, hC⟩, b⟩
            simp only [HM1.out] at hx hC
            subst hx
            have HZF : Hid (Hz w (fun _ => False) [celT 2 (.slice a2 m1 c2) m1 (rowC enC es) g2, box B1 [.int .i64 le, .slice a m1 c], celT 2 (.slice a m1 c) m1 (rowC enC es) g, jr jp jd ds2 ⟨a1, ⟨le, es⟩, false⟩, box R [.int .i64 2, .int .i64 (a1 - 1), .slice ea em ec, .int .i64 tx, .string xd, .string raw, .int .i64 un, .slice ka mk kc]] wF) := put_cel HZE.out b hC
            clear hC b HZE
            go_upto_region 24 with fail
            have HZG : Hid (Hz w (fun _ => False) [box wF.heap.size [.int .i64 le, .slice a2 m1 c2], celT 2 (.slice a2 m1 c2) m1 (rowC enC es) g2, box B1 [.int .i64 le, .slice a m1 c], celT 2 (.slice a m1 c) m1 (rowC enC es) g, jr jp jd ds2 ⟨a1, ⟨le, es⟩, false⟩, box R [.int .i64 2, .int .i64 (a1 - 1), .slice ea em ec, .int .i64 tx, .string xd, .string raw, .int .i64 un, .slice ka mk kc]] (wF.alloc (.cells #[.int .i64 le, .slice a2 m1 c2] 34))) := HZF.out.box [.int .i64 le, .slice a2 m1 c2] _
            clear HZF
            generalize wF.alloc (.cells #[.int .i64 le, .slice a2 m1 c2] 34) = wG at *
            generalize wF.heap.size = B2 at *
            have y0 := HZG.out.cell 2 rfl (j := 0) rfl
            have y1 := HZG.out.cell 2 rfl (j := 1) rfl
            have z0 := HZG.out.cell 0 rfl (j := 0) rfl
            have z1 := HZG.out.cell 0 rfl (j := 1) rfl
            have CB : Hid (Calls Tryz.prog 40 #[.slice a2 m1 c2, .slice a m1 c] wG fun e w' => e = .returned (.bool true) ∧ Below wG.heap.size wG w') := by
              obtain ⟨O1, l1⟩ := cel_lie HZG.out 1 rfl HM1.out
              obtain ⟨O2, l2⟩ := cel_lie HZG.out 3 rfl HM1.out
              exact begins15_val l1 l2 _ _ _ _ HM1.out HM1.out true ⟨fun _ => List.take_length, fun _ => rfl⟩
            go_wp2_with (first
              | (go_at_call 40; refine CB.out.mono ?_; rintro e wH ⟨rfl, b⟩; have HZH : Hid (Hz w (fun _ => False) [box B2 [.int .i64 le, .slice a2 m1 c2], celT 2 (.slice a2 m1 c2) m1 (rowC enC es) g2, box B1 [.int .i64 le, .slice a m1 c], celT 2 (.slice a m1 c) m1 (rowC enC es) g, jr jp jd ds2 ⟨a1, ⟨le, es⟩, false⟩, box R [.int .i64 2, .int .i64 (a1 - 1), .slice ea em ec, .int .i64 tx, .string xd, .string raw, .int .i64 un, .slice ka mk kc]] wH) := HZG.out.below b; clear b y0 y1 z0 z1 HZG; have y0 := HZH.out.cell 2 rfl (j := 0) rfl; have y1 := HZH.out.cell 2 rfl (j := 1) rfl; have z0 := HZH.out.cell 0 rfl (j := 0) rfl; have z1 := HZH.out.cell 0 rfl (j := 1) rfl)
              | (go_at_call 39; refine (promised_hz HZH.out 4 rfl).mono ?_; rintro e wI ⟨hx, hwy⟩; have hx2 : e = .returned (.int .i64 a1) := hx; subst hx2; have hwz := hwy.symm; subst hwz; clear hwy hx))
            go_ret
            exact ⟨rfl, hz_bel HZH.out⟩
        · rcases hex with c1 | ⟨c1, c2⟩
          all_goals
            go_wp2_with fail
            refine (CPr.out _).mono ?_
            rintro e w5 ⟨rfl, b⟩
            have HZ5 : Hid (Hz w (fun _ => False) [jr jp jd ds j, box R [.int .i64 kd, .int .i64 ue, .slice ea em ec, .int .i64 tx, .string xd, .string raw, .int .i64 un, .slice ka mk kc]] w5) := HZ.out.below b
            clear b HZ
            go_wp2_with fail
            refine (hand_hz HZ5.out 0 rfl HJ.out J0 HJ0.out 0 HQ0.out HJ1.out.1 HD1.out).mono ?_
            rintro e w6 ⟨T, rfl, hT, hTq, hz⟩
            have HZ6 : Hid (Hz w (fun _ => False) [jr jp jd ds1 ⟨a1, ⟨le, es⟩, false⟩, box R [.int .i64 kd, .int .i64 ue, .slice ea em ec, .int .i64 tx, .string xd, .string raw, .int .i64 un, .slice ka mk kc]] w6) := hz
            clear hz HZ5
            go_wp2_with fail
            refine (said_val T hT 0 hTq _).mono ?_
            rintro e w7 ⟨rfl, b⟩
            have HZ7 : Hid (Hz w (fun _ => False) [jr jp jd ds1 ⟨a1, ⟨le, es⟩, false⟩, box R [.int .i64 kd, .int .i64 ue, .slice ea em ec, .int .i64 tx, .string xd, .string raw, .int .i64 un, .slice ka mk kc]] w7) := HZ6.out.below b
            clear b HZ6 hT hTq
            go_wp2_with fail
            refine (log_hz HZ7.out 0 rfl HJ1.out.2).mono ?_
            rintro e w8 ⟨⟨a, c, g, hx, hC⟩, b⟩
            simp only [HM1.out] at hx hC
            subst hx
            have HZ8 : Hid (Hz w (fun _ => False) [celT 2 (.slice a m1 c) m1 (rowC enC es) g, jr jp jd ds1 ⟨a1, ⟨le, es⟩, false⟩, box R [.int .i64 kd, .int .i64 ue, .slice ea em ec, .int .i64 tx, .string xd, .string raw, .int .i64 un, .slice ka mk kc]] w8) := put_cel HZ7.out b hC
            clear hC b HZ7
            go_upto_region 18 with fail
            have HZ9 : Hid (Hz w (fun _ => False) [box w8.heap.size [.int .i64 le, .slice a m1 c], celT 2 (.slice a m1 c) m1 (rowC enC es) g, jr jp jd ds1 ⟨a1, ⟨le, es⟩, false⟩, box R [.int .i64 kd, .int .i64 ue, .slice ea em ec, .int .i64 tx, .string xd, .string raw, .int .i64 un, .slice ka mk kc]] (w8.alloc (.cells #[.int .i64 le, .slice a m1 c] 34))) := HZ8.out.box [.int .i64 le, .slice a m1 c] _
            clear HZ8
            generalize w8.alloc (.cells #[.int .i64 le, .slice a m1 c] 34) = w9 at *
            generalize w8.heap.size = B1 at *
            have r1 := HZ9.out.cell 3 rfl (j := 1) rfl
            have fr1 := HZ9.out.fr 3 rfl 1
            go_upto_region 20 with fail
            have HZA : Hid (Hz w (fun _ => False) [box B1 [.int .i64 le, .slice a m1 c], celT 2 (.slice a m1 c) m1 (rowC enC es) g, jr jp jd ds1 ⟨a1, ⟨le, es⟩, false⟩, box R [.int .i64 kd, .int .i64 (a1 - 1), .slice ea em ec, .int .i64 tx, .string xd, .string raw, .int .i64 un, .slice ka mk kc]] (w9.setCell ⟨R, 1, none⟩ (.int .i64 (a1 - 1)))) := HZ9.out.setBox 3 rfl 1 (.int .i64 (a1 - 1)) (by simp)
            clear HZ9 r1 fr1
            generalize w9.setCell ⟨R, 1, none⟩ (.int .i64 (a1 - 1)) = wA at *
            have r0 := HZA.out.cell 3 rfl (j := 0) rfl
            have fr0 := HZA.out.fr 3 rfl 0
            go_wp2_with fail
            refine (CPk.out _).mono ?_
            rintro e wB ⟨rfl, hwy⟩
            have hwz := hwy.symm
            subst hwz
            clear hwy
            go_upto_region 22 with fail
            have HZC : Hid (Hz w (fun _ => False) [box B1 [.int .i64 le, .slice a m1 c], celT 2 (.slice a m1 c) m1 (rowC enC es) g, jr jp jd ds1 ⟨a1, ⟨le, es⟩, false⟩, box R [.int .i64 kd, .int .i64 (a1 - 1), .slice ea em ec, .int .i64 tx, .string xd, .string raw, .int .i64 un, .slice ka mk kc]] wA) := HZA.out
            clear HZA r0 fr0
            have r0 := HZC.out.cell 3 rfl (j := 0) rfl
            have r1 := HZC.out.cell 3 rfl (j := 1) rfl
            have r2 := HZC.out.cell 3 rfl (j := 2) rfl
            have r3 := HZC.out.cell 3 rfl (j := 3) rfl
            have r4 := HZC.out.cell 3 rfl (j := 4) rfl
            have r5 := HZC.out.cell 3 rfl (j := 5) rfl
            have r6 := HZC.out.cell 3 rfl (j := 6) rfl
            have r7 := HZC.out.cell 3 rfl (j := 7) rfl
            obtain ⟨S, hS⟩ : ∃ S, askT kd (a1 - 1) ues ⟨tx, xd⟩ raw = S := ⟨_, rfl⟩
            have CA : Hid (∀ W, Below w.heap.size w W → Calls Tryz.prog 29 #[.agg #[.int .i64 kd, .int .i64 (a1 - 1), .slice ea em ec, .int .i64 tx, .string xd, .string raw, .int .i64 un, .slice ka mk kc]] W fun e w' => e = .returned (.string S) ∧ Below W.heap.size W w') := fun W hb => asked_val kd (a1 - 1) ea em ec ues ⟨tx, xd⟩ raw un ka mk kc (HQ.out.1.row.below hb) HQ.out.1.small (HK.out) (by omega) HQ.out.2.1 HQ.out.2.2.2 S hS
            have HS : Hid (S.size ≤ maxLen ∧ (handQ ds1 ⟨a1, ⟨le, es⟩, false⟩ S).j = ⟨a1, ⟨le, es⟩, false⟩) := by
              refine ⟨by rw [← hS]; exact ask_small HQ.out.2.2.1, ?_⟩
              rw [← hS]
              exact hand_old rfl (by rw [HQk.out]; exact hc2) (by omega) (by omega) (by show (a1 - 1) < a1; omega)
            obtain ⟨ds2, hd2⟩ : ∃ d, (handQ ds1 ⟨a1, ⟨le, es⟩, false⟩ S).ds = d := ⟨_, rfl⟩
            have HD2 : Hid ((handQ ds1 ⟨a1, ⟨le, es⟩, false⟩ S).ds = ds2) := hd2
            clear hd2 hS
            go_wp2_with fail
            refine (CA.out _ (hz_bel HZC.out)).mono ?_
            rintro e wD ⟨rfl, b⟩
            have HZD : Hid (Hz w (fun _ => False) [box B1 [.int .i64 le, .slice a m1 c], celT 2 (.slice a m1 c) m1 (rowC enC es) g, jr jp jd ds1 ⟨a1, ⟨le, es⟩, false⟩, box R [.int .i64 kd, .int .i64 (a1 - 1), .slice ea em ec, .int .i64 tx, .string xd, .string raw, .int .i64 un, .slice ka mk kc]] wD) := HZC.out.below b
            clear b HZC r0 r1 r2 r3 r4 r5 r6 r7
            go_wp2_with fail
            refine (hand_hz HZD.out 2 rfl HJ1.out.2 S HS.out.1 _ rfl HS.out.2 HD2.out).mono ?_
            rintro e wE ⟨T2, rfl, -, -, hz⟩
            have HZE : Hid (Hz w (fun _ => False) [box B1 [.int .i64 le, .slice a m1 c], celT 2 (.slice a m1 c) m1 (rowC enC es) g, jr jp jd ds2 ⟨a1, ⟨le, es⟩, false⟩, box R [.int .i64 kd, .int .i64 (a1 - 1), .slice ea em ec, .int .i64 tx, .string xd, .string raw, .int .i64 un, .slice ka mk kc]] wE) := hz
            clear hz HZD
            go_wp2_with fail
            refine (log_hz HZE.out 2 rfl HJ1.out.2).mono ?_
            rintro e wF ⟨⟨a2, c2, g2, hx, hC⟩, b⟩
            simp only [HM1.out] at hx hC
            subst hx
            have HZF : Hid (Hz w (fun _ => False) [celT 2 (.slice a2 m1 c2) m1 (rowC enC es) g2, box B1 [.int .i64 le, .slice a m1 c], celT 2 (.slice a m1 c) m1 (rowC enC es) g, jr jp jd ds2 ⟨a1, ⟨le, es⟩, false⟩, box R [.int .i64 kd, .int .i64 (a1 - 1), .slice ea em ec, .int .i64 tx, .string xd, .string raw, .int .i64 un, .slice ka mk kc]] wF) := put_cel HZE.out b hC
            clear hC b HZE
            go_upto_region 24 with fail
            have HZG : Hid (Hz w (fun _ => False) [box wF.heap.size [.int .i64 le, .slice a2 m1 c2], celT 2 (.slice a2 m1 c2) m1 (rowC enC es) g2, box B1 [.int .i64 le, .slice a m1 c], celT 2 (.slice a m1 c) m1 (rowC enC es) g, jr jp jd ds2 ⟨a1, ⟨le, es⟩, false⟩, box R [.int .i64 kd, .int .i64 (a1 - 1), .slice ea em ec, .int .i64 tx, .string xd, .string raw, .int .i64 un, .slice ka mk kc]] (wF.alloc (.cells #[.int .i64 le, .slice a2 m1 c2] 34))) := HZF.out.box [.int .i64 le, .slice a2 m1 c2] _
            clear HZF
            generalize wF.alloc (.cells #[.int .i64 le, .slice a2 m1 c2] 34) = wG at *
            generalize wF.heap.size = B2 at *
            have y0 := HZG.out.cell 2 rfl (j := 0) rfl
            have y1 := HZG.out.cell 2 rfl (j := 1) rfl
            have z0 := HZG.out.cell 0 rfl (j := 0) rfl
            have z1 := HZG.out.cell 0 rfl (j := 1) rfl
            have CB : Hid (Calls Tryz.prog 40 #[.slice a2 m1 c2, .slice a m1 c] wG fun e w' => e = .returned (.bool true) ∧ Below wG.heap.size wG w') := by
              obtain ⟨O1, l1⟩ := cel_lie HZG.out 1 rfl HM1.out
              obtain ⟨O2, l2⟩ := cel_lie HZG.out 3 rfl HM1.out
              exact begins15_val l1 l2 _ _ _ _ HM1.out HM1.out true ⟨fun _ => List.take_length, fun _ => rfl⟩
            go_wp2_with (first
              | (go_at_call 40; refine CB.out.mono ?_; rintro e wH ⟨rfl, b⟩; have HZH : Hid (Hz w (fun _ => False) [box B2 [.int .i64 le, .slice a2 m1 c2], celT 2 (.slice a2 m1 c2) m1 (rowC enC es) g2, box B1 [.int .i64 le, .slice a m1 c], celT 2 (.slice a m1 c) m1 (rowC enC es) g, jr jp jd ds2 ⟨a1, ⟨le, es⟩, false⟩, box R [.int .i64 kd, .int .i64 (a1 - 1), .slice ea em ec, .int .i64 tx, .string xd, .string raw, .int .i64 un, .slice ka mk kc]] wH) := HZG.out.below b; clear b y0 y1 z0 z1 HZG; have y0 := HZH.out.cell 2 rfl (j := 0) rfl; have y1 := HZH.out.cell 2 rfl (j := 1) rfl; have z0 := HZH.out.cell 0 rfl (j := 0) rfl; have z1 := HZH.out.cell 0 rfl (j := 1) rfl)
              | (go_at_call 39; refine (promised_hz HZH.out 4 rfl).mono ?_; rintro e wI ⟨hx, hwy⟩; have hx2 : e = .returned (.int .i64 a1) := hx; subst hx2; have hwz := hwy.symm; subst hwz; clear hwy hx))
            go_ret
            exact ⟨rfl, hz_bel HZH.out⟩
        · rcases hex with c1 | ⟨c1, c2⟩
          all_goals
            go_wp2_with fail
            refine (CPr.out _).mono ?_
            rintro e w5 ⟨rfl, b⟩
            have HZ5 : Hid (Hz w (fun _ => False) [jr jp jd ds j, box R [.int .i64 kd, .int .i64 ue, .slice ea em ec, .int .i64 tx, .string xd, .string raw, .int .i64 un, .slice ka mk kc]] w5) := HZ.out.below b
            clear b HZ
            go_wp2_with fail
            refine (hand_hz HZ5.out 0 rfl HJ.out J0 HJ0.out 0 HQ0.out HJ1.out.1 HD1.out).mono ?_
            rintro e w6 ⟨T, rfl, hT, hTq, hz⟩
            have HZ6 : Hid (Hz w (fun _ => False) [jr jp jd ds1 ⟨a1, ⟨le, es⟩, false⟩, box R [.int .i64 kd, .int .i64 ue, .slice ea em ec, .int .i64 tx, .string xd, .string raw, .int .i64 un, .slice ka mk kc]] w6) := hz
            clear hz HZ5
            go_wp2_with fail
            refine (said_val T hT 0 hTq _).mono ?_
            rintro e w7 ⟨rfl, b⟩
            have HZ7 : Hid (Hz w (fun _ => False) [jr jp jd ds1 ⟨a1, ⟨le, es⟩, false⟩, box R [.int .i64 kd, .int .i64 ue, .slice ea em ec, .int .i64 tx, .string xd, .string raw, .int .i64 un, .slice ka mk kc]] w7) := HZ6.out.below b
            clear b HZ6 hT hTq
            go_wp2_with fail
            refine (log_hz HZ7.out 0 rfl HJ1.out.2).mono ?_
            rintro e w8 ⟨⟨a, c, g, hx, hC⟩, b⟩
            simp only [HM1.out] at hx hC
            subst hx
            have HZ8 : Hid (Hz w (fun _ => False) [celT 2 (.slice a m1 c) m1 (rowC enC es) g, jr jp jd ds1 ⟨a1, ⟨le, es⟩, false⟩, box R [.int .i64 kd, .int .i64 ue, .slice ea em ec, .int .i64 tx, .string xd, .string raw, .int .i64 un, .slice ka mk kc]] w8) := put_cel HZ7.out b hC
            clear hC b HZ7
            go_upto_region 18 with fail
            have HZ9 : Hid (Hz w (fun _ => False) [box w8.heap.size [.int .i64 le, .slice a m1 c], celT 2 (.slice a m1 c) m1 (rowC enC es) g, jr jp jd ds1 ⟨a1, ⟨le, es⟩, false⟩, box R [.int .i64 kd, .int .i64 ue, .slice ea em ec, .int .i64 tx, .string xd, .string raw, .int .i64 un, .slice ka mk kc]] (w8.alloc (.cells #[.int .i64 le, .slice a m1 c] 34))) := HZ8.out.box [.int .i64 le, .slice a m1 c] _
            clear HZ8
            generalize w8.alloc (.cells #[.int .i64 le, .slice a m1 c] 34) = w9 at *
            generalize w8.heap.size = B1 at *
            have r1 := HZ9.out.cell 3 rfl (j := 1) rfl
            have fr1 := HZ9.out.fr 3 rfl 1
            go_upto_region 20 with fail
            have HZA : Hid (Hz w (fun _ => False) [box B1 [.int .i64 le, .slice a m1 c], celT 2 (.slice a m1 c) m1 (rowC enC es) g, jr jp jd ds1 ⟨a1, ⟨le, es⟩, false⟩, box R [.int .i64 kd, .int .i64 ue, .slice ea em ec, .int .i64 tx, .string xd, .string raw, .int .i64 un, .slice ka mk kc]] w9) := HZ9.out
            clear HZ9 r1 fr1
            have r0 := HZA.out.cell 3 rfl (j := 0) rfl
            have fr0 := HZA.out.fr 3 rfl 0
            go_wp2_with fail
            refine (CPk.out _).mono ?_
            rintro e wB ⟨rfl, hwy⟩
            have hwz := hwy.symm
            subst hwz
            clear hwy
            go_upto_region 22 with fail
            have HZC : Hid (Hz w (fun _ => False) [box B1 [.int .i64 le, .slice a m1 c], celT 2 (.slice a m1 c) m1 (rowC enC es) g, jr jp jd ds1 ⟨a1, ⟨le, es⟩, false⟩, box R [.int .i64 2, .int .i64 ue, .slice ea em ec, .int .i64 tx, .string xd, .string raw, .int .i64 un, .slice ka mk kc]] (w9.setCell ⟨R, 0, none⟩ (.int .i64 2))) := HZA.out.setBox 3 rfl 0 (.int .i64 2) (by simp)
            clear HZA r0 fr0
            generalize w9.setCell ⟨R, 0, none⟩ (.int .i64 2) = wC at *
            have r0 := HZC.out.cell 3 rfl (j := 0) rfl
            have r1 := HZC.out.cell 3 rfl (j := 1) rfl
            have r2 := HZC.out.cell 3 rfl (j := 2) rfl
            have r3 := HZC.out.cell 3 rfl (j := 3) rfl
            have r4 := HZC.out.cell 3 rfl (j := 4) rfl
            have r5 := HZC.out.cell 3 rfl (j := 5) rfl
            have r6 := HZC.out.cell 3 rfl (j := 6) rfl
            have r7 := HZC.out.cell 3 rfl (j := 7) rfl
            obtain ⟨S, hS⟩ : ∃ S, askT 2 ue ues ⟨tx, xd⟩ raw = S := ⟨_, rfl⟩
            have CA : Hid (∀ W, Below w.heap.size w W → Calls Tryz.prog 29 #[.agg #[.int .i64 2, .int .i64 ue, .slice ea em ec, .int .i64 tx, .string xd, .string raw, .int .i64 un, .slice ka mk kc]] W fun e w' => e = .returned (.string S) ∧ Below W.heap.size W w') := fun W hb => asked_val 2 ue ea em ec ues ⟨tx, xd⟩ raw un ka mk kc (HQ.out.1.row.below hb) HQ.out.1.small (by omega) (by omega) HQ.out.2.1 HQ.out.2.2.2 S hS
            have HS : Hid (S.size ≤ maxLen ∧ (handQ ds1 ⟨a1, ⟨le, es⟩, false⟩ S).j = ⟨a1, ⟨le, es⟩, false⟩) := by
              refine ⟨by rw [← hS]; exact ask_small HQ.out.2.2.1, ?_⟩
              rw [← hS]
              exact hand_old rfl (by decide) (by omega) (by omega) (by show ue < a1; omega)
            obtain ⟨ds2, hd2⟩ : ∃ d, (handQ ds1 ⟨a1, ⟨le, es⟩, false⟩ S).ds = d := ⟨_, rfl⟩
            have HD2 : Hid ((handQ ds1 ⟨a1, ⟨le, es⟩, false⟩ S).ds = ds2) := hd2
            clear hd2 hS
            go_wp2_with fail
            refine (CA.out _ (hz_bel HZC.out)).mono ?_
            rintro e wD ⟨rfl, b⟩
            have HZD : Hid (Hz w (fun _ => False) [box B1 [.int .i64 le, .slice a m1 c], celT 2 (.slice a m1 c) m1 (rowC enC es) g, jr jp jd ds1 ⟨a1, ⟨le, es⟩, false⟩, box R [.int .i64 2, .int .i64 ue, .slice ea em ec, .int .i64 tx, .string xd, .string raw, .int .i64 un, .slice ka mk kc]] wD) := HZC.out.below b
            clear b HZC r0 r1 r2 r3 r4 r5 r6 r7
            go_wp2_with fail
            refine (hand_hz HZD.out 2 rfl HJ1.out.2 S HS.out.1 _ rfl HS.out.2 HD2.out).mono ?_
            rintro e wE ⟨T2, rfl, -, -, hz⟩
            have HZE : Hid (Hz w (fun _ => False) [box B1 [.int .i64 le, .slice a m1 c], celT 2 (.slice a m1 c) m1 (rowC enC es) g, jr jp jd ds2 ⟨a1, ⟨le, es⟩, false⟩, box R [.int .i64 2, .int .i64 ue, .slice ea em ec, .int .i64 tx, .string xd, .string raw, .int .i64 un, .slice ka mk kc]] wE) := hz
            clear hz HZD
            go_wp2_with fail
            refine (log_hz HZE.out 2 rfl HJ1.out.2).mono ?_
            rintro e wF ⟨⟨a2, c2, g2, hx, hC⟩, b⟩
            simp only [HM1.out] at hx hC
            subst hx
            have HZF : Hid (Hz w (fun _ => False) [celT 2 (.slice a2 m1 c2) m1 (rowC enC es) g2, box B1 [.int .i64 le, .slice a m1 c], celT 2 (.slice a m1 c) m1 (rowC enC es) g, jr jp jd ds2 ⟨a1, ⟨le, es⟩, false⟩, box R [.int .i64 2, .int .i64 ue, .slice ea em ec, .int .i64 tx, .string xd, .string raw, .int .i64 un, .slice ka mk kc]] wF) := put_cel HZE.out b hC
            clear hC b HZE
            go_upto_region 24 with fail
            have HZG : Hid (Hz w (fun _ => False) [box wF.heap.size [.int .i64 le, .slice a2 m1 c2], celT 2 (.slice a2 m1 c2) m1 (rowC enC es) g2, box B1 [.int .i64 le, .slice a m1 c], celT 2 (.slice a m1 c) m1 (rowC enC es) g, jr jp jd ds2 ⟨a1, ⟨le, es⟩, false⟩, box R [.int .i64 2, .int .i64 ue, .slice ea em ec, .int .i64 tx, .string xd, .string raw, .int .i64 un, .slice ka mk kc]] (wF.alloc (.cells #[.int .i64 le, .slice a2 m1 c2] 34))) := HZF.out.box [.int .i64 le, .slice a2 m1 c2] _
            clear HZF
            generalize wF.alloc (.cells #[.int .i64 le, .slice a2 m1 c2] 34) = wG at *
            generalize wF.heap.size = B2 at *
            have y0 := HZG.out.cell 2 rfl (j := 0) rfl
            have y1 := HZG.out.cell 2 rfl (j := 1) rfl
            have z0 := HZG.out.cell 0 rfl (j := 0) rfl
            have z1 := HZG.out.cell 0 rfl (j := 1) rfl
            have CB : Hid (Calls Tryz.prog 40 #[.slice a2 m1 c2, .slice a m1 c] wG fun e w' => e = .returned (.bool true) ∧ Below wG.heap.size wG w') := by
              obtain ⟨O1, l1⟩ := cel_lie HZG.out 1 rfl HM1.out
              obtain ⟨O2, l2⟩ := cel_lie HZG.out 3 rfl HM1.out
              exact begins15_val l1 l2 _ _ _ _ HM1.out HM1.out true ⟨fun _ => List.take_length, fun _ => rfl⟩
            go_wp2_with (first
              | (go_at_call 40; refine CB.out.mono ?_; rintro e wH ⟨rfl, b⟩; have HZH : Hid (Hz w (fun _ => False) [box B2 [.int .i64 le, .slice a2 m1 c2], celT 2 (.slice a2 m1 c2) m1 (rowC enC es) g2, box B1 [.int .i64 le, .slice a m1 c], celT 2 (.slice a m1 c) m1 (rowC enC es) g, jr jp jd ds2 ⟨a1, ⟨le, es⟩, false⟩, box R [.int .i64 2, .int .i64 ue, .slice ea em ec, .int .i64 tx, .string xd, .string raw, .int .i64 un, .slice ka mk kc]] wH) := HZG.out.below b; clear b y0 y1 z0 z1 HZG; have y0 := HZH.out.cell 2 rfl (j := 0) rfl; have y1 := HZH.out.cell 2 rfl (j := 1) rfl; have z0 := HZH.out.cell 0 rfl (j := 0) rfl; have z1 := HZH.out.cell 0 rfl (j := 1) rfl)
              | (go_at_call 39; refine (promised_hz HZH.out 4 rfl).mono ?_; rintro e wI ⟨hx, hwy⟩; have hx2 : e = .returned (.int .i64 a1) := hx; subst hx2; have hwz := hwy.symm; subst hwz; clear hwy hx))
            go_ret
            exact ⟨rfl, hz_bel HZH.out⟩
        · rcases hex with c1 | ⟨c1, c2⟩
          all_goals
            go_wp2_with fail
            refine (CPr.out _).mono ?_
            rintro e w5 ⟨rfl, b⟩
            have HZ5 : Hid (Hz w (fun _ => False) [jr jp jd ds j, box R [.int .i64 kd, .int .i64 ue, .slice ea em ec, .int .i64 tx, .string xd, .string raw, .int .i64 un, .slice ka mk kc]] w5) := HZ.out.below b
            clear b HZ
            go_wp2_with fail
            refine (hand_hz HZ5.out 0 rfl HJ.out J0 HJ0.out 0 HQ0.out HJ1.out.1 HD1.out).mono ?_
            rintro e w6 ⟨T, rfl, hT, hTq, hz⟩
            have HZ6 : Hid (Hz w (fun _ => False) [jr jp jd ds1 ⟨a1, ⟨le, es⟩, false⟩, box R [.int .i64 kd, .int .i64 ue, .slice ea em ec, .int .i64 tx, .string xd, .string raw, .int .i64 un, .slice ka mk kc]] w6) := hz
            clear hz HZ5
            go_wp2_with fail
            refine (said_val T hT 0 hTq _).mono ?_
            rintro e w7 ⟨rfl, b⟩
            have HZ7 : Hid (Hz w (fun _ => False) [jr jp jd ds1 ⟨a1, ⟨le, es⟩, false⟩, box R [.int .i64 kd, .int .i64 ue, .slice ea em ec, .int .i64 tx, .string xd, .string raw, .int .i64 un, .slice ka mk kc]] w7) := HZ6.out.below b
            clear b HZ6 hT hTq
            go_wp2_with fail
            refine (log_hz HZ7.out 0 rfl HJ1.out.2).mono ?_
            rintro e w8 ⟨⟨a, c, g, hx, hC⟩, b⟩
            simp only [HM1.out] at hx hC
            subst hx
            have HZ8 : Hid (Hz w (fun _ => False) [celT 2 (.slice a m1 c) m1 (rowC enC es) g, jr jp jd ds1 ⟨a1, ⟨le, es⟩, false⟩, box R [.int .i64 kd, .int .i64 ue, .slice ea em ec, .int .i64 tx, .string xd, .string raw, .int .i64 un, .slice ka mk kc]] w8) := put_cel HZ7.out b hC
            clear hC b HZ7
            go_upto_region 18 with fail
            have HZ9 : Hid (Hz w (fun _ => False) [box w8.heap.size [.int .i64 le, .slice a m1 c], celT 2 (.slice a m1 c) m1 (rowC enC es) g, jr jp jd ds1 ⟨a1, ⟨le, es⟩, false⟩, box R [.int .i64 kd, .int .i64 ue, .slice ea em ec, .int .i64 tx, .string xd, .string raw, .int .i64 un, .slice ka mk kc]] (w8.alloc (.cells #[.int .i64 le, .slice a m1 c] 34))) := HZ8.out.box [.int .i64 le, .slice a m1 c] _
            clear HZ8
            generalize w8.alloc (.cells #[.int .i64 le, .slice a m1 c] 34) = w9 at *
            generalize w8.heap.size = B1 at *
            have r1 := HZ9.out.cell 3 rfl (j := 1) rfl
            have fr1 := HZ9.out.fr 3 rfl 1
            go_upto_region 20 with fail
            have HZA : Hid (Hz w (fun _ => False) [box B1 [.int .i64 le, .slice a m1 c], celT 2 (.slice a m1 c) m1 (rowC enC es) g, jr jp jd ds1 ⟨a1, ⟨le, es⟩, false⟩, box R [.int .i64 kd, .int .i64 ue, .slice ea em ec, .int .i64 tx, .string xd, .string raw, .int .i64 un, .slice ka mk kc]] w9) := HZ9.out
            clear HZ9 r1 fr1
            have r0 := HZA.out.cell 3 rfl (j := 0) rfl
            have fr0 := HZA.out.fr 3 rfl 0
            go_wp2_with fail
            refine (CPk.out _).mono ?_
            rintro e wB ⟨rfl, hwy⟩
            have hwz := hwy.symm
            subst hwz
            clear hwy
            go_upto_region 22 with fail
            have HZC : Hid (Hz w (fun _ => False) [box B1 [.int .i64 le, .slice a m1 c], celT 2 (.slice a m1 c) m1 (rowC enC es) g, jr jp jd ds1 ⟨a1, ⟨le, es⟩, false⟩, box R [.int .i64 kd, .int .i64 ue, .slice ea em ec, .int .i64 tx, .string xd, .string raw, .int .i64 un, .slice ka mk kc]] w9) := HZA.out
            clear HZA r0 fr0
            have r0 := HZC.out.cell 3 rfl (j := 0) rfl
            have r1 := HZC.out.cell 3 rfl (j := 1) rfl
            have r2 := HZC.out.cell 3 rfl (j := 2) rfl
            have r3 := HZC.out.cell 3 rfl (j := 3) rfl
            have r4 := HZC.out.cell 3 rfl (j := 4) rfl
            have r5 := HZC.out.cell 3 rfl (j := 5) rfl
            have r6 := HZC.out.cell 3 rfl (j := 6) rfl
            have r7 := HZC.out.cell 3 rfl (j := 7) rfl
            obtain ⟨S, hS⟩ : ∃ S, askT kd ue ues ⟨tx, xd⟩ raw = S := ⟨_, rfl⟩
            have CA : Hid (∀ W, Below w.heap.size w W → Calls Tryz.prog 29 #[.agg #[.int .i64 kd, .int .i64 ue, .slice ea em ec, .int .i64 tx, .string xd, .string raw, .int .i64 un, .slice ka mk kc]] W fun e w' => e = .returned (.string S) ∧ Below W.heap.size W w') := fun W hb => asked_val kd ue ea em ec ues ⟨tx, xd⟩ raw un ka mk kc (HQ.out.1.row.below hb) HQ.out.1.small (HK.out) (by omega) HQ.out.2.1 HQ.out.2.2.2 S hS
            have HS : Hid (S.size ≤ maxLen ∧ (handQ ds1 ⟨a1, ⟨le, es⟩, false⟩ S).j = ⟨a1, ⟨le, es⟩, false⟩) := by
              refine ⟨by rw [← hS]; exact ask_small HQ.out.2.2.1, ?_⟩
              rw [← hS]
              exact hand_old rfl (by rw [HQk.out]; exact hc2) (by omega) (by omega) (by show ue < a1; omega)
            obtain ⟨ds2, hd2⟩ : ∃ d, (handQ ds1 ⟨a1, ⟨le, es⟩, false⟩ S).ds = d := ⟨_, rfl⟩
            have HD2 : Hid ((handQ ds1 ⟨a1, ⟨le, es⟩, false⟩ S).ds = ds2) := hd2
            clear hd2 hS
            go_wp2_with fail
            refine (CA.out _ (hz_bel HZC.out)).mono ?_
            rintro e wD ⟨rfl, b⟩
            have HZD : Hid (Hz w (fun _ => False) [box B1 [.int .i64 le, .slice a m1 c], celT 2 (.slice a m1 c) m1 (rowC enC es) g, jr jp jd ds1 ⟨a1, ⟨le, es⟩, false⟩, box R [.int .i64 kd, .int .i64 ue, .slice ea em ec, .int .i64 tx, .string xd, .string raw, .int .i64 un, .slice ka mk kc]] wD) := HZC.out.below b
            clear b HZC r0 r1 r2 r3 r4 r5 r6 r7
            go_wp2_with fail
            refine (hand_hz HZD.out 2 rfl HJ1.out.2 S HS.out.1 _ rfl HS.out.2 HD2.out).mono ?_
            rintro e wE ⟨T2, rfl, -, -, hz⟩
            have HZE : Hid (Hz w (fun _ => False) [box B1 [.int .i64 le, .slice a m1 c], celT 2 (.slice a m1 c) m1 (rowC enC es) g, jr jp jd ds2 ⟨a1, ⟨le, es⟩, false⟩, box R [.int .i64 kd, .int .i64 ue, .slice ea em ec, .int .i64 tx, .string xd, .string raw, .int .i64 un, .slice ka mk kc]] wE) := hz
            clear hz HZD
            go_wp2_with fail
            refine (log_hz HZE.out 2 rfl HJ1.out.2).mono ?_
            rintro e wF ⟨⟨a2, c2, g2, hx, hC⟩, b⟩
            simp only [HM1.out] at hx hC
            subst hx
            have HZF : Hid (Hz w (fun _ => False) [celT 2 (.slice a2 m1 c2) m1 (rowC enC es) g2, box B1 [.int .i64 le, .slice a m1 c], celT 2 (.slice a m1 c) m1 (rowC enC es) g, jr jp jd ds2 ⟨a1, ⟨le, es⟩, false⟩, box R [.int .i64 kd, .int .i64 ue, .slice ea em ec, .int .i64 tx, .string xd, .string raw, .int .i64 un, .slice ka mk kc]] wF) := put_cel HZE.out b hC
            clear hC b HZE
            go_upto_region 24 with fail
            have HZG : Hid (Hz w (fun _ => False) [box wF.heap.size [.int .i64 le, .slice a2 m1 c2], celT 2 (.slice a2 m1 c2) m1 (rowC enC es) g2, box B1 [.int .i64 le, .slice a m1 c], celT 2 (.slice a m1 c) m1 (rowC enC es) g, jr jp jd ds2 ⟨a1, ⟨le, es⟩, false⟩, box R [.int .i64 kd, .int .i64 ue, .slice ea em ec, .int .i64 tx, .string xd, .string raw, .int .i64 un, .slice ka mk kc]] (wF.alloc (.cells #[.int .i64 le, .slice a2 m1 c2] 34))) := HZF.out.box [.int .i64 le, .slice a2 m1 c2] _
            clear HZF
            generalize wF.alloc (.cells #[.int .i64 le, .slice a2 m1 c2] 34) = wG at *
            generalize wF.heap.size = B2 at *
            have y0 := HZG.out.cell 2 rfl (j := 0) rfl
            have y1 := HZG.out.cell 2 rfl (j := 1) rfl
            have z0 := HZG.out.cell 0 rfl (j := 0) rfl
            have z1 := HZG.out.cell 0 rfl (j := 1) rfl
            have CB : Hid (Calls Tryz.prog 40 #[.slice a2 m1 c2, .slice a m1 c] wG fun e w' => e = .returned (.bool true) ∧ Below wG.heap.size wG w') := by
              obtain ⟨O1, l1⟩ := cel_lie HZG.out 1 rfl HM1.out
              obtain ⟨O2, l2⟩ := cel_lie HZG.out 3 rfl HM1.out
              exact begins15_val l1 l2 _ _ _ _ HM1.out HM1.out true ⟨fun _ => List.take_length, fun _ => rfl⟩
            go_wp2_with (first
              | (go_at_call 40; refine CB.out.mono ?_; rintro e wH ⟨rfl, b⟩; have HZH : Hid (Hz w (fun _ => False) [box B2 [.int .i64 le, .slice a2 m1 c2], celT 2 (.slice a2 m1 c2) m1 (rowC enC es) g2, box B1 [.int .i64 le, .slice a m1 c], celT 2 (.slice a m1 c) m1 (rowC enC es) g, jr jp jd ds2 ⟨a1, ⟨le, es⟩, false⟩, box R [.int .i64 kd, .int .i64 ue, .slice ea em ec, .int .i64 tx, .string xd, .string raw, .int .i64 un, .slice ka mk kc]] wH) := HZG.out.below b; clear b y0 y1 z0 z1 HZG; have y0 := HZH.out.cell 2 rfl (j := 0) rfl; have y1 := HZH.out.cell 2 rfl (j := 1) rfl; have z0 := HZH.out.cell 0 rfl (j := 0) rfl; have z1 := HZH.out.cell 0 rfl (j := 1) rfl)
              | (go_at_call 39; refine (promised_hz HZH.out 4 rfl).mono ?_; rintro e wI ⟨hx, hwy⟩; have hx2 : e = .returned (.int .i64 a1) := hx; subst hx2; have hwz := hwy.symm; subst hwz; clear hwy hx))
            go_ret
            exact ⟨rfl, hz_bel HZH.out⟩
      · clear HP
        rcases hex with c1 | ⟨c1, c2⟩
        all_goals
          go_wp2_with fail
          refine (CPr.out _).mono ?_
          rintro e w5 ⟨rfl, b⟩
          have HZ5 : Hid (Hz w (fun _ => False) [jr jp jd ds j, box R [.int .i64 kd, .int .i64 ue, .slice ea em ec, .int .i64 tx, .string xd, .string raw, .int .i64 un, .slice ka mk kc]] w5) := HZ.out.below b
          clear b HZ
          go_wp2_with fail
          refine (hand_hz HZ5.out 0 rfl HJ.out J0 HJ0.out q HQ0.out HJ1.out.1 HD1.out).mono ?_
          rintro e w6 ⟨T, rfl, hT, hTq, hz⟩
          have HZ6 : Hid (Hz w (fun _ => False) [jr jp jd ds1 j1, box R [.int .i64 kd, .int .i64 ue, .slice ea em ec, .int .i64 tx, .string xd, .string raw, .int .i64 un, .slice ka mk kc]] w6) := hz
          clear hz HZ5
          go_wp2_with fail
          refine (said_val T hT q hTq _).mono ?_
          rintro e w7 ⟨rfl, b⟩
          have B7 : Hid (Below w.heap.size w w7) := hz_bel (HZ6.out.below b)
          clear b HZ6 hT hTq
          have hbq : (q == 0) = false := beq_eq_false_iff_ne.2 h0
          go_wp2
          go_ret
          exact ⟨rfl, B7.out⟩

theorem walk (a0 : Option Addr) (cap0 : Nat) (us : List JDd) (a1 : Int) (e2 : JDd) (w : World) (w0 : JDds w a0 us) (w1 : (Lit.int .i64 a1).wf = true) (w2 : JDdQ w e2) :
    Calls Tryz.prog 7 #[.slice a0 us.length cap0, .int .i64 a1, .agg #[.int .i64 e2.kd, .int .i64 e2.ep, .slice e2.ea e2.es.length e2.ec, .int .i64 e2.x.tx, .string e2.x.d, .string e2.raw, .int .i64 e2.n, .slice e2.ka e2.ks.length e2.kc]] w fun e w' => e = .returned (.bool true) ∧ Below w.heap.size w w' :=
  walk_b a0 cap0 _ us a1 e2 w rfl w0 (bounds_i64 w1) w2

set_option maxRecDepth 100000 in
theorem lifted (os : Os) (started : os.Started) (H : Type) (enc : TypeId × Value → H) :
    ReturnsInHanded {} Tryz.checked os 7 .any (Rows.journalFencesSpec.pre6 enc Tryz.prog Tryz.f7 Rows.journalFencesRow.domain false) (Rows.journalFencesSpec.post enc Tryz.prog Tryz.f7 false true false false) := by
  refine returnsInHanded_of_change (C := Tryz.checked) own started (by kernel_rfl) Tryz.func7
    (ChangeSpec.witness6 (enc := enc) (C := Tryz.checked) false ⟨#[], #[.slice none 0 0, .int .i64 0, .agg #[.int .i64 0, .int .i64 0, .slice none 0 0, .int .i64 0, .string ByteArray.empty, .string ByteArray.empty, .int .i64 0, .slice none 0 0]], []⟩ 8 (by kernel_rfl) (by kernel_rfl) (by kernel_rfl) (by kernel_rfl)) ?_
  intro W base args ds gs before hval0 hW hcnd _
  have hval : ∀ (j : Nat) t v, Tryz.f7.params[j]? = some t → args[j]? = some v → Value.okWide Tryz.prog W .any base t v := hval0
  have hW' := hW
  obtain ⟨p, q, hA0, hV, rfl, hfz, hnd⟩ := hW
  have hA : DataW.TrodAll enc Tryz.prog W 0 (fun _ => true) true Tryz.f7.params.toList args.toList ds p := hA0
  rw [Tryz.params7] at hA hval
  obtain ⟨v0, vs0, d0, ds0, p0, q0, hargs, rfl, rfl, h0, r0⟩ := trodAll_cons hA
  obtain ⟨v1, vs1, d1, ds1, p1, q1, rfl, rfl, rfl, h1, r1⟩ := trodAll_cons r0
  obtain ⟨v2, vs2, d2, ds2, p2, q2, rfl, rfl, rfl, h2, r2⟩ := trodAll_cons r1
  obtain ⟨rfl, rfl, rfl⟩ := trodAll_nil r2
  obtain rfl : args = #[v0, v1, v2] := by cases args; simp_all
  obtain ⟨rfl, rfl⟩ := trodVars_none hV
  obtain ⟨a0, len0, cap0, rfl⟩ := okWide_slice Tryz.underlying42 (hval 0 42 v0 rfl rfl)
  have k0 := h0
  have lt0 : ∀ x ∈ p0, x.block < W.heap.size := by obtain ⟨m, hm⟩ := k0; exact DataW.trod_lt m _ _ _ hm
  obtain ⟨ss0, y0, w0⟩ := Jrn.open_jdeeds h0
  subst y0
  obtain ⟨a1, rfl, rfl, rfl, w1⟩ := open_int Tryz.underlying3 (hval 1 3 v1 rfl rfl) h1
  have k2 := h2
  have lt2 : ∀ x ∈ p2, x.block < W.heap.size := by obtain ⟨m, hm⟩ := k2; exact DataW.trod_lt m _ _ _ hm
  obtain ⟨e2, rfl, w2⟩ := Jrn.open_jdeed (hval 2 55 v2 rfl rfl) h2
  clear hA0 hval0
  refine (walk a0 cap0 ss0 a1 e2 W w0 w1 w2).mono fun e W' ⟨he, bel⟩ => ?_
  subst he
  exact ⟨_, rfl, _, _, _, [], _, [], hW', trodAll_mk1 (shut_bool Tryz.underlying4 _), (trodAll_cons_mk (Below.trod laidOut (by kernel_rfl) (of_decide_eq_true (by kernel_rfl)) k0 bel lt0) (trodAll_cons_mk (shut_int Tryz.underlying3 w1) (trodAll_cons_mk (Below.trod laidOut (by kernel_rfl) (of_decide_eq_true (by kernel_rfl)) k2 bel lt2) trodAll_mk0))), rfl, bel.frame _, fun h => by cases h⟩

theorem over : Rows.journalFencesRow.holds Tryz.pinned (OpenSpec.ofChange Rows.journalFencesSpec) :=
  OpenClaim.holds_of_wide 7 Tryz.f7 rfl rfl rfl rfl rfl rfl rfl ⟨rfl, rfl, rfl, rfl, rfl⟩ rfl rfl rfl rfl rfl (by kernel_rfl) Tryz.func7 (by kernel_rfl)
    (of_decide_eq_true (by kernel_rfl)) (by unfold Func.isWrapper; first | (rw [if_pos (by decide +kernel)]; kernel_rfl) | (rw [if_neg (by decide +kernel)]; exact ⟨rfl, rfl⟩))
    (fun os started H enc _ => lifted os started H enc)
end Go.Proofs.YtfmhmokbbkliaaaGreat.journalFences

namespace Go.Proofs.YtfmhmokbbkliaaaGreat
/-- The statement. -/
theorem journalFences_holds : Rows.JournalFencesSaid := journalFences.over
#print axioms journalFences_holds
end Go.Proofs.YtfmhmokbbkliaaaGreat
