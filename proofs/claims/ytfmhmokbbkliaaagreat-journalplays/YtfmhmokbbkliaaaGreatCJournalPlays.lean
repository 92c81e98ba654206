/- JournalPlays: for every list of deeds: the statement's function returns true; nothing that was there is changed. No condition. -/
import Derived.Test.YtfmhmokbbkliaaaGreatB42
import Derived.Test.YtfmhmokbbkliaaaGreatB40
namespace Go.Proofs.YtfmhmokbbkliaaaGreat.journalPlays
open Go.ChangeShapes Go.WideShapes Go.ChangeAt Go.RowKit Go.Proofs.YtfmhmokbbkliaaaGreat Go.Proofs.YtfmhmokbbkliaaaGreat.Wir Go.Proofs.YtfmhmokbbkliaaaGreat.Lgg Go.Proofs.YtfmhmokbbkliaaaGreat.Sep Go.Proofs.YtfmhmokbbkliaaaGreat.Jrn
open Go.ChangeMaps (open_string shut_string)
set_option linter.unusedVariables false

theorem own : ownKnob Tryz.prog.godebug = none := by kernel_rfl

set_option maxRecDepth 100000 in
set_option maxHeartbeats 8000000 in
theorem walk_b (a0 : Option Addr) (cap0 n0 : Nat) (us : List JDd) (w : World) (hn0 : us.length = n0) (hU : JDds w a0 us) :
    Calls Tryz.prog 4 #[.slice a0 n0 cap0] w fun e w' => e = .returned (.bool true) ∧ Below w.heap.size w w' := by
  have hx1 : n0 ≤ 9223372036854775807 := by have := hU.lie.lid; unfold maxLen at this; omega
  have HN : Hid (us.length = n0) := hn0
  have HU : Hid (JDds w a0 us) := hU
  clear hn0 hU
  have HO : Hid (openQ ⟨400000, 0, false, []⟩ = (0, ⟨400000, 0, false, []⟩, nd0)) := open_none 400000
  have hst2 : ∀ (w : World) (a : Addr) (x : Option Addr) (n c : Nat) (m : Mode), (store a (.slice x n c) m).run Tryz.prog w = stored Tryz.prog w a (.slice x n c) m := fun w a x n c m => run_store (P := Tryz.prog) w a _ m rfl
  go_enter Tryz.func4, Tryz.ntmps4
  go_wp2_with fail
  refine (examples15_val _).mono ?_
  rintro e w2 ⟨rfl, b⟩
  have HZ2 : Hid (Hz w (fun _ => False) [] w2) := (hz_none w).below b
  clear b
  go_wp2_with fail
  refine (new_hz HZ2.out 400000 400000 (by omega) (by omega)).mono ?_
  rintro e w3 ⟨jd, rfl, hz⟩
  have HZ3 : Hid (Hz w (fun _ => False) [dsk jd ⟨400000, 0, false, []⟩] w3) := hz
  clear hz HZ2
  go_wp2_with fail
  refine (rnew_hz HZ3.out 400000 400000 (by omega) (by omega) (fit_get (pd := jd) HZ3.out 0 rfl)).mono ?_
  rintro e w4 ⟨xd, rfl, hz⟩
  have HZ4 : Hid (Hz w (fun _ => False) [xdk xd ⟨400000, 0, false, []⟩, dsk jd ⟨400000, 0, false, []⟩] w4) := hz
  clear hz HZ3
  go_wp2_with fail
  refine (open_hz HZ4.out.swap HO.out).mono ?_
  rintro e w5 ⟨jp0, rfl, hz⟩
  have HZ5 : Hid (Hz w (fun _ => False) [jr jp0 jd ⟨400000, 0, false, []⟩ nd0, xdk xd ⟨400000, 0, false, []⟩] w5) := hz
  clear hz HZ4
  go_wp2_with fail
  refine (ropen_yes HZ5.out.swap nd0 HO.out).mono ?_
  rintro e w6 ⟨yp0, rfl, hz⟩
  have HZ6 : Hid (Hz w (fun _ => False) [jr jp0 jd ⟨400000, 0, false, []⟩ nd0, rj yp0 xd ⟨400000, 0, false, []⟩ nd0] w6) := hz.swap
  clear hz HZ5 HO
  go_wp2
  go_loopw [6, 7, 8, 9, 10] (fun vj ve vy vf vi wr => ∃ (k : Nat) (ds : DS) (j r : Nd) (jp yp : Nat), k ≤ n0 ∧ k ≤ 40 ∧ vj = .pointer (some ⟨jp, 0, none⟩) ∧ ve = .int .i64 0 ∧ vy = .pointer (some ⟨yp, 0, none⟩) ∧ vf = .int .i64 0 ∧ vi = .int .i64 k ∧ (NdOk j ∧ Jrn.Twin j r) ∧ Hz w (fun _ => False) [jr jp jd ds j, rj yp xd ds r] wr) (fun _ _ _ _ vi _ => 40 - (intOf vi).toNat)
  case atStart => exact ⟨0, _, nd0, nd0, jp0, yp0, by omega, by omega, rfl, rfl, rfl, rfl, rfl, ⟨nd0_ok, twin_open nd0_ok⟩, HZ6.out⟩
  case round =>
    obtain ⟨k, ds, j, r, jp, yp, hkn, hk40, rfl, rfl, rfl, rfl, rfl, hj, hz⟩ := hrel
    have HZ : Hid (Hz w (fun _ => False) [jr jp jd ds j, rj yp xd ds r] wr) := hz
    have HJ : Hid (NdOk j ∧ Jrn.Twin j r) := hj
    clear hz hj HZ6
    by_cases hlt : k < n0 ∧ k < 40
    · obtain ⟨hlt0, hlt1⟩ := hlt
      have hk0 : k < us.length := by rw [HN.out]; exact hlt0
      obtain ⟨ub, uo, hua, hcell⟩ := HU.out.lie.at wideJD hk0
      have hok := HU.out.each _ (List.getElem_mem hk0)
      generalize us[k] = u at *
      subst hua
      obtain ⟨xkd, xue, xea, xec, xes, ⟨xtx, xxd⟩, xraw, xun, xka, xkb, xko, xkc, xks⟩ := u
      have g0 := hcell 0 _ rfl
      have g1 := hcell 1 _ rfl
      have g2 := hcell 2 _ rfl
      have g3 := hcell 3 _ rfl
      have g4 := hcell 4 _ rfl
      have g5 := hcell 5 _ rfl
      have g6 := hcell 6 _ rfl
      have g7 := hcell 7 _ rfl
      simp only [← Nat.add_assoc, Nat.add_zero] at g0 g1 g2 g3 g4 g5 g6 g7
      obtain ⟨em, hem⟩ : ∃ m, xes.length = m := ⟨_, rfl⟩
      obtain ⟨mk2, hmk⟩ : ∃ m, xks.length = m := ⟨_, rfl⟩
      rw [hem] at g2
      rw [hmk] at g7
      have HG : Hid (∀ W, Below w.heap.size w W → W.cell? ⟨ub, uo + k * 8, none⟩ = some (.int .i64 xkd) ∧ W.cell? ⟨ub, uo + k * 8 + 1, none⟩ = some (.int .i64 xue) ∧ W.cell? ⟨ub, uo + k * 8 + 2, none⟩ = some (.slice xea em xec) ∧ W.cell? ⟨ub, uo + k * 8 + 3, none⟩ = some (.int .i64 xtx) ∧ W.cell? ⟨ub, uo + k * 8 + 4, none⟩ = some (.string xxd) ∧ W.cell? ⟨ub, uo + k * 8 + 5, none⟩ = some (.string xraw) ∧ W.cell? ⟨ub, uo + k * 8 + 6, none⟩ = some (.int .i64 xun) ∧ W.cell? ⟨ub, uo + k * 8 + 7, none⟩ = some (.slice xka mk2 xkc)) := fun W hb => ⟨bel_cell hb g0, bel_cell hb g1, bel_cell hb g2, bel_cell hb g3, bel_cell hb g4, bel_cell hb g5, bel_cell hb g6, bel_cell hb g7⟩
      obtain ⟨q1, q2, q3, q3t, q4, q5, q6, q7, q8, q9⟩ := hok
      simp only at q1 q2 q3 q3t q4 q5 q6 q7 q8 q9
      obtain ⟨S, hS⟩ : ∃ S, askT xkd xue xes ⟨xtx, xxd⟩ xraw = S := ⟨_, rfl⟩
      have CA : Hid (∀ W, Below w.heap.size w W → Calls Tryz.prog 29 #[.agg #[.int .i64 xkd, .int .i64 xue, .slice xea em xec, .int .i64 xtx, .string xxd, .string xraw, .int .i64 xun, .slice xka mk2 xkc]] W fun e w' => e = .returned (.string S) ∧ Below W.heap.size W w') := fun W hb => asked_val xkd xue xea em xec xes ⟨xtx, xxd⟩ xraw xun xka mk2 xkc (q3.row.below hb) q3.small q1 q2 q4 hem S hS
      have HS : Hid (S.size ≤ maxLen) := by show S.size ≤ maxLen; rw [← hS]; exact ask_small q5
      have HKs : Hid ((xks.length = mk2 ∧ mk2 ≤ maxLen) ∧ Ints w .i64 xka xkb xko xks ∧ ∀ k ∈ xks, -9223372036854775808 ≤ k ∧ k ≤ 9223372036854775807) := ⟨⟨hmk, by rw [← hmk]; exact q8⟩, q7, q9⟩
      obtain ⟨Qf, hQf⟩ : ∃ Q, keepN xkd % 8 = Q := ⟨_, rfl⟩
      have CPk : Hid (∀ W, Calls Tryz.prog 23 #[.int .i64 xkd, .int .i64 8] W fun e w' => e = .returned (.int .i64 Qf) ∧ w' = W) := fun W => pick15_val xkd 8 Qf W q1 (by omega) hQf
      have hun := q6
      have hcs : Qf = 6 ∨ Qf = 7 ∨ (¬ Qf = 6 ∧ ¬ Qf = 7) := by omega
      clear hcell hem hmk q1 q2 q3 q3t q4 q5 q6 q7 q8 q9 hk0 hS hQf g0 g1 g2 g3 g4 g5 g6 g7
      obtain ⟨g0, g1, g2, g3, g4, g5, g6, g7⟩ := HG.out _ (hz_bel HZ.out)
      go_upto_region 12 with fail
      have HZ7 : Hid (Hz w (fun _ => False) [box wr.heap.size [.int .i64 xkd, .int .i64 xue, .slice xea em xec, .int .i64 xtx, .string xxd, .string xraw, .int .i64 xun, .slice xka mk2 xkc], jr jp jd ds j, rj yp xd ds r] (wr.alloc (.cells #[.int .i64 xkd, .int .i64 xue, .slice xea em xec, .int .i64 xtx, .string xxd, .string xraw, .int .i64 xun, .slice xka mk2 xkc] 55))) := HZ.out.box [.int .i64 xkd, .int .i64 xue, .slice xea em xec, .int .i64 xtx, .string xxd, .string xraw, .int .i64 xun, .slice xka mk2 xkc] _
      clear HZ g0 g1 g2 g3 g4 g5 g6 g7
      generalize wr.alloc (.cells #[.int .i64 xkd, .int .i64 xue, .slice xea em xec, .int .i64 xtx, .string xxd, .string xraw, .int .i64 xun, .slice xka mk2 xkc] 55) = w7 at *
      generalize wr.heap.size = UB at *
      have HZ8 : Hid (Hz w (fun _ => False) [jr jp jd ds j, rj yp xd ds r, box UB [.int .i64 xkd, .int .i64 xue, .slice xea em xec, .int .i64 xtx, .string xxd, .string xraw, .int .i64 xun, .slice xka mk2 xkc]] w7) := HZ7.out.swap.swap2
      clear HZ7
      have u0 := HZ8.out.cell 2 rfl (j := 0) rfl
      go_wp2_with fail
      refine (CPk.out _).mono ?_
      rintro e wB ⟨rfl, hwy⟩
      have hwz := hwy.symm
      subst hwz
      clear hwy u0 CPk
      rcases hcs with rfl | rfl | ⟨hc6, hc7⟩
      · obtain ⟨d6, hd6⟩ : ∃ d, ({ ds with fuse := max xun 0 } : DS) = d := ⟨_, rfl⟩
        have HD6 : Hid (({ ds with fuse := max xun 0 } : DS) = d6) := hd6
        clear hd6 CA HS HKs
        have u6 := HZ8.out.cell 2 rfl (j := 6) rfl
        go_wp2_with fail
        refine (fuse_hz HZ8.out xun _ (by omega) rfl HD6.out).mono ?_
        rintro e w9 ⟨rfl, hz⟩
        have HZ9 : Hid (Hz w (fun _ => False) [jr jp jd d6 j, rj yp xd ds r, box UB [.int .i64 xkd, .int .i64 xue, .slice xea em xec, .int .i64 xtx, .string xxd, .string xraw, .int .i64 xun, .slice xka mk2 xkc]] w9) := hz
        clear hz HZ8 u6
        have u6 := HZ9.out.cell 2 rfl (j := 6) rfl
        go_wp2_with fail
        refine (rfuse_hz HZ9.out.swap xun _ (by omega) rfl HD6.out (fit_jr HZ9.out)).mono ?_
        rintro e w10 ⟨rfl, hz⟩
        have HZE : Hid (Hz w (fun _ => False) [jr jp jd d6 j, rj yp xd d6 r, box UB [.int .i64 xkd, .int .i64 xue, .slice xea em xec, .int .i64 xtx, .string xxd, .string xraw, .int .i64 xun, .slice xka mk2 xkc]] w10) := hz.swap
        clear hz HZ9 u6
        go_wp2_with fail
        refine (disks_hz (two_disks HZE.out)).mono ?_
        rintro e wX ⟨rfl, b⟩
        have HZF : Hid (Hz w (fun _ => False) [jr jp jd d6 j, rj yp xd d6 r, box UB [.int .i64 xkd, .int .i64 xue, .slice xea em xec, .int .i64 xtx, .string xxd, .string xraw, .int .i64 xun, .slice xka mk2 xkc]] wX) := HZE.out.below b
        clear b HZE
        go_wp2_with fail
        refine (alike_hz HZF.out 0 rfl 1 rfl (HJ.out).1 (HJ.out).2).mono ?_
        rintro e wY ⟨rfl, b⟩
        have HZG : Hid (Hz w (fun _ => False) [jr jp jd d6 j, rj yp xd d6 r, box UB [.int .i64 xkd, .int .i64 xue, .slice xea em xec, .int .i64 xtx, .string xxd, .string xraw, .int .i64 xun, .slice xka mk2 xkc]] wY) := HZF.out.below b
        clear b HZF
        go_wp2
        go_roundw
        case rel => exact ⟨k + 1, d6, j, r, jp, yp, by omega, by omega, rfl, rfl, rfl, rfl, by go_num, HJ.out, HZG.out.erase 2⟩
        case measure => simp [intOf]; omega
      · obtain ⟨dC, hdC⟩ : ∃ d, (⟨ds.room, 0, false, crashL xks ds.S⟩ : DS) = d := ⟨_, rfl⟩
        obtain ⟨⟨er, d2, nd⟩, hop⟩ : ∃ o, openQ dC = o := ⟨_, rfl⟩
        have HOP : Hid ((⟨ds.room, 0, false, crashL xks ds.S⟩ : DS) = dC ∧ openQ dC = (er, d2, nd)) := ⟨hdC, hop⟩
        have hnd : NdOk nd := by have := openQ_ok dC; rw [hop] at this; exact this
        have HND : Hid (NdOk nd ∧ Jrn.Twin nd nd) := ⟨hnd, twin_open hnd⟩
        clear hdC hop hnd CA HS
        have u7 := HZ8.out.cell 2 rfl (j := 7) rfl
        go_wp2_with fail
        refine (crash_hz HZ8.out xka xkb xko xkc mk2 xks HKs.out.1.1 HKs.out.1.2 HKs.out.2.1 HKs.out.2.2 HOP.out.1).mono ?_
        rintro e w9 ⟨rfl, hz⟩
        have HZ9 : Hid (Hz w (fun _ => False) [dsk jd dC, rj yp xd ds r, box UB [.int .i64 xkd, .int .i64 xue, .slice xea em xec, .int .i64 xtx, .string xxd, .string xraw, .int .i64 xun, .slice xka mk2 xkc]] w9) := hz
        clear hz HZ8 u7
        have u7 := HZ9.out.cell 2 rfl (j := 7) rfl
        go_wp2_with fail
        refine (rcrash_hz HZ9.out.swap xka xkb xko xkc mk2 xks HKs.out.1.1 HKs.out.1.2 HKs.out.2.1 HKs.out.2.2 HOP.out.1 (fit_get (pd := jd) HZ9.out 0 rfl)).mono ?_
        rintro e w10 ⟨rfl, hz⟩
        have HZ10 : Hid (Hz w (fun _ => False) [dsk jd dC, xdk xd dC, box UB [.int .i64 xkd, .int .i64 xue, .slice xea em xec, .int .i64 xtx, .string xxd, .string xraw, .int .i64 xun, .slice xka mk2 xkc]] w10) := hz.swap
        clear hz HZ9 u7
        by_cases her : er = 0
        · subst her
          go_wp2_with fail
          refine (open_hz HZ10.out HOP.out.2).mono ?_
          rintro e w11 ⟨jp2, rfl, hz⟩
          have HZ11 : Hid (Hz w (fun _ => False) [jr jp2 jd d2 nd, xdk xd dC, box UB [.int .i64 xkd, .int .i64 xue, .slice xea em xec, .int .i64 xtx, .string xxd, .string xraw, .int .i64 xun, .slice xka mk2 xkc]] w11) := hz
          clear hz HZ10
          go_wp2_with fail
          refine (ropen_yes HZ11.out.swap nd HOP.out.2).mono ?_
          rintro e w12 ⟨yp2, rfl, hz⟩
          have HZE : Hid (Hz w (fun _ => False) [jr jp2 jd d2 nd, rj yp2 xd d2 nd, box UB [.int .i64 xkd, .int .i64 xue, .slice xea em xec, .int .i64 xtx, .string xxd, .string xraw, .int .i64 xun, .slice xka mk2 xkc]] w12) := hz.swap
          clear hz HZ11
          go_wp2_with fail
          refine (disks_hz (two_disks HZE.out)).mono ?_
          rintro e wX ⟨rfl, b⟩
          have HZF : Hid (Hz w (fun _ => False) [jr jp2 jd d2 nd, rj yp2 xd d2 nd, box UB [.int .i64 xkd, .int .i64 xue, .slice xea em xec, .int .i64 xtx, .string xxd, .string xraw, .int .i64 xun, .slice xka mk2 xkc]] wX) := HZE.out.below b
          clear b HZE
          go_wp2_with fail
          refine (alike_hz HZF.out 0 rfl 1 rfl (HND.out).1 (HND.out).2).mono ?_
          rintro e wY ⟨rfl, b⟩
          have HZG : Hid (Hz w (fun _ => False) [jr jp2 jd d2 nd, rj yp2 xd d2 nd, box UB [.int .i64 xkd, .int .i64 xue, .slice xea em xec, .int .i64 xtx, .string xxd, .string xraw, .int .i64 xun, .slice xka mk2 xkc]] wY) := HZF.out.below b
          clear b HZF
          go_wp2
          go_roundw
          case rel => exact ⟨k + 1, d2, nd, nd, jp2, yp2, by omega, by omega, rfl, rfl, rfl, rfl, by go_num, HND.out, HZG.out.erase 2⟩
          case measure => simp [intOf]; omega
        · have hne : (er != er) = false := by simp
          have hee : (er == er) = true := beq_self_eq_true er
          go_wp2_with fail
          refine (oopen_no HZ10.out nd er her HOP.out.2).mono ?_
          rintro e w11 ⟨rfl, hz⟩
          have HZ11 : Hid (Hz w (fun _ => False) [dsk jd d2, xdk xd dC, box UB [.int .i64 xkd, .int .i64 xue, .slice xea em xec, .int .i64 xtx, .string xxd, .string xraw, .int .i64 xun, .slice xka mk2 xkc]] w11) := hz
          clear hz HZ10
          go_wp2_with fail
          refine (ropen_no HZ11.out.swap nd er her HOP.out.2).mono ?_
          rintro e w12 ⟨rfl, hz⟩
          have B12 : Hid (Below w.heap.size w w12) := hz_bel hz
          clear hz HZ11
          go_wp2
          go_ret
          exact ⟨rfl, B12.out⟩
      · have hb6 : ((Qf : Int) == 6) = false := beq_eq_false_iff_ne.2 (by omega)
        have hb7 : ((Qf : Int) == 7) = false := beq_eq_false_iff_ne.2 (by omega)
        have hlk := hand_like (ds := ds) HJ.out.1 HJ.out.2 S
        have hok1 := handQ_ok (ds := ds) HJ.out.1 S
        obtain ⟨T, hT⟩ : ∃ T, (handQ ds j S).t = T := ⟨_, rfl⟩
        obtain ⟨ds1, hd1⟩ : ∃ d, (handQ ds j S).ds = d := ⟨_, rfl⟩
        obtain ⟨j1, hj1⟩ : ∃ x, (handQ ds j S).j = x := ⟨_, rfl⟩
        obtain ⟨r1, hr1⟩ : ∃ x, (refHandQ ds r S).j = x := ⟨_, rfl⟩
        rw [hj1, hr1] at hlk
        rw [hj1] at hok1
        have HD : Hid ((handQ ds j S).t = T ∧ (handQ ds j S).ds = ds1 ∧ (handQ ds j S).j = j1 ∧ (refHandQ ds r S).j = r1) := ⟨hT, hd1, hj1, hr1⟩
        have HJ1 : Hid (NdOk j1 ∧ Jrn.Twin j1 r1) := ⟨hok1, hlk.2.2⟩
        have hTT : (T.toList == T.toList) = true := by simp
        clear hlk hok1 hT hd1 hj1 hr1 HKs
        have u0 := HZ8.out.cell 2 rfl (j := 0) rfl
        have u1 := HZ8.out.cell 2 rfl (j := 1) rfl
        have u2 := HZ8.out.cell 2 rfl (j := 2) rfl
        have u3 := HZ8.out.cell 2 rfl (j := 3) rfl
        have u4 := HZ8.out.cell 2 rfl (j := 4) rfl
        have u5 := HZ8.out.cell 2 rfl (j := 5) rfl
        have u6 := HZ8.out.cell 2 rfl (j := 6) rfl
        have u7 := HZ8.out.cell 2 rfl (j := 7) rfl
        go_wp2_with fail
        refine (CA.out _ (hz_bel HZ8.out)).mono ?_
        rintro e w9 ⟨rfl, b⟩
        have HZ9 : Hid (Hz w (fun _ => False) [jr jp jd ds j, rj yp xd ds r, box UB [.int .i64 xkd, .int .i64 xue, .slice xea em xec, .int .i64 xtx, .string xxd, .string xraw, .int .i64 xun, .slice xka mk2 xkc]] w9) := HZ8.out.below b
        clear b HZ8 u0 u1 u2 u3 u4 u5 u6 u7
        go_wp2_with fail
        refine (hand_hzT HZ9.out 0 rfl HJ.out.1 S HS.out T HD.out.1 HD.out.2.2.1 HD.out.2.1).mono ?_
        rintro e w10 ⟨rfl, hz⟩
        have HZ10 : Hid (Hz w (fun _ => False) [jr jp jd ds1 j1, rj yp xd ds r, box UB [.int .i64 xkd, .int .i64 xue, .slice xea em xec, .int .i64 xtx, .string xxd, .string xraw, .int .i64 xun, .slice xka mk2 xkc]] w10) := hz
        clear hz HZ9
        have u0 := HZ10.out.cell 2 rfl (j := 0) rfl
        have u1 := HZ10.out.cell 2 rfl (j := 1) rfl
        have u2 := HZ10.out.cell 2 rfl (j := 2) rfl
        have u3 := HZ10.out.cell 2 rfl (j := 3) rfl
        have u4 := HZ10.out.cell 2 rfl (j := 4) rfl
        have u5 := HZ10.out.cell 2 rfl (j := 5) rfl
        have u6 := HZ10.out.cell 2 rfl (j := 6) rfl
        have u7 := HZ10.out.cell 2 rfl (j := 7) rfl
        go_wp2_with fail
        refine (CA.out _ (hz_bel HZ10.out)).mono ?_
        rintro e w11 ⟨rfl, b⟩
        have HZ11 : Hid (Hz w (fun _ => False) [jr jp jd ds1 j1, rj yp xd ds r, box UB [.int .i64 xkd, .int .i64 xue, .slice xea em xec, .int .i64 xtx, .string xxd, .string xraw, .int .i64 xun, .slice xka mk2 xkc]] w11) := HZ10.out.below b
        clear b HZ10 u0 u1 u2 u3 u4 u5 u6 u7
        go_wp2_with fail
        refine (rhand_hz HZ11.out.swap HJ.out.1 HJ.out.2 S HS.out T HD.out.1 ds1 HD.out.2.1).mono ?_
        rintro e w12 ⟨rfl, hz⟩
        have HZE : Hid (Hz w (fun _ => False) [jr jp jd ds1 j1, rj yp xd ds1 r1, box UB [.int .i64 xkd, .int .i64 xue, .slice xea em xec, .int .i64 xtx, .string xxd, .string xraw, .int .i64 xun, .slice xka mk2 xkc]] w12) := by have h9 := hz.swap; rw [HD.out.2.2.2] at h9; exact h9
        clear hz HZ11
        go_wp2_with fail
        refine (disks_hz (two_disks HZE.out)).mono ?_
        rintro e wX ⟨rfl, b⟩
        have HZF : Hid (Hz w (fun _ => False) [jr jp jd ds1 j1, rj yp xd ds1 r1, box UB [.int .i64 xkd, .int .i64 xue, .slice xea em xec, .int .i64 xtx, .string xxd, .string xraw, .int .i64 xun, .slice xka mk2 xkc]] wX) := HZE.out.below b
        clear b HZE
        go_wp2_with fail
        refine (alike_hz HZF.out 0 rfl 1 rfl (HJ1.out).1 (HJ1.out).2).mono ?_
        rintro e wY ⟨rfl, b⟩
        have HZG : Hid (Hz w (fun _ => False) [jr jp jd ds1 j1, rj yp xd ds1 r1, box UB [.int .i64 xkd, .int .i64 xue, .slice xea em xec, .int .i64 xtx, .string xxd, .string xraw, .int .i64 xun, .slice xka mk2 xkc]] wY) := HZF.out.below b
        clear b HZF
        go_wp2
        go_roundw
        case rel => exact ⟨k + 1, ds1, j1, r1, jp, yp, by omega, by omega, rfl, rfl, rfl, rfl, by go_num, HJ1.out, HZG.out.erase 2⟩
        case measure => simp [intOf]; omega
    · have hex : n0 ≤ k ∨ (k < n0 ∧ 40 ≤ k) := by omega
      clear hlt HN HU
      rcases hex with c1 | ⟨c1, c2⟩
      all_goals
        have B7 : Hid (Below w.heap.size w wr) := hz_bel HZ.out
        clear HZ
        go_wp2
        go_ret
        exact ⟨rfl, B7.out⟩

theorem walk (a0 : Option Addr) (cap0 : Nat) (us : List JDd) (w : World) (w0 : JDds w a0 us) :
    Calls Tryz.prog 4 #[.slice a0 us.length cap0] w fun e w' => e = .returned (.bool true) ∧ Below w.heap.size w w' :=
  walk_b a0 cap0 _ us w rfl w0

set_option maxRecDepth 100000 in
theorem lifted (os : Os) (started : os.Started) (H : Type) (enc : TypeId × Value → H) :
    ReturnsInHanded {} Tryz.checked os 4 .any (Rows.journalPlaysSpec.pre6 enc Tryz.prog Tryz.f4 Rows.journalPlaysRow.domain false) (Rows.journalPlaysSpec.post enc Tryz.prog Tryz.f4 false true false false) := by
  refine returnsInHanded_of_change (C := Tryz.checked) own started (by kernel_rfl) Tryz.func4
    (ChangeSpec.witness6 (enc := enc) (C := Tryz.checked) false ⟨#[], #[.slice none 0 0], []⟩ 8 (by kernel_rfl) (by kernel_rfl) (by kernel_rfl) (by kernel_rfl)) ?_
  intro W base args ds gs before hval0 hW hcnd _
  have hval : ∀ (j : Nat) t v, Tryz.f4.params[j]? = some t → args[j]? = some v → Value.okWide Tryz.prog W .any base t v := hval0
  have hW' := hW
  obtain ⟨p, q, hA0, hV, rfl, hfz, hnd⟩ := hW
  have hA : DataW.TrodAll enc Tryz.prog W 0 (fun _ => true) true Tryz.f4.params.toList args.toList ds p := hA0
  rw [Tryz.params4] at hA hval
  obtain ⟨v0, vs0, d0, ds0, p0, q0, hargs, rfl, rfl, h0, r0⟩ := trodAll_cons hA
  obtain ⟨rfl, rfl, rfl⟩ := trodAll_nil r0
  obtain rfl : args = #[v0] := by cases args; simp_all
  obtain ⟨rfl, rfl⟩ := trodVars_none hV
  obtain ⟨a0, len0, cap0, rfl⟩ := okWide_slice Tryz.underlying42 (hval 0 42 v0 rfl rfl)
  have k0 := h0
  have lt0 : ∀ x ∈ p0, x.block < W.heap.size := by obtain ⟨m, hm⟩ := k0; exact DataW.trod_lt m _ _ _ hm
  obtain ⟨ss0, y0, w0⟩ := Jrn.open_jdeeds h0
  subst y0
  clear hA0 hval0
  refine (walk a0 cap0 ss0 W w0).mono fun e W' ⟨he, bel⟩ => ?_
  subst he
  exact ⟨_, rfl, _, _, _, [], _, [], hW', trodAll_mk1 (shut_bool Tryz.underlying4 _), (trodAll_cons_mk (Below.trod laidOut (by kernel_rfl) (of_decide_eq_true (by kernel_rfl)) k0 bel lt0) trodAll_mk0), rfl, bel.frame _, fun h => by cases h⟩

theorem over : Rows.journalPlaysRow.holds Tryz.pinned (OpenSpec.ofChange Rows.journalPlaysSpec) :=
  OpenClaim.holds_of_wide 4 Tryz.f4 rfl rfl rfl rfl rfl rfl rfl ⟨rfl, rfl, rfl, rfl, rfl⟩ rfl rfl rfl rfl rfl (by kernel_rfl) Tryz.func4 (by kernel_rfl)
    (of_decide_eq_true (by kernel_rfl)) (by unfold Func.isWrapper; first | (rw [if_pos (by decide +kernel)]; kernel_rfl) | (rw [if_neg (by decide +kernel)]; exact ⟨rfl, rfl⟩))
    (fun os started H enc _ => lifted os started H enc)
end Go.Proofs.YtfmhmokbbkliaaaGreat.journalPlays

namespace Go.Proofs.YtfmhmokbbkliaaaGreat
/-- The statement. -/
theorem journalPlays_holds : Rows.JournalPlaysSaid := journalPlays.over
#print axioms journalPlays_holds
end Go.Proofs.YtfmhmokbbkliaaaGreat
