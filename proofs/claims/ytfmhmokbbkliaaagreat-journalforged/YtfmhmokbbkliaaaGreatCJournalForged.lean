/- JournalForged: for all bytes of both files and every list of deeds: the statement's function returns true; nothing that was there is changed. No condition. -/
import Derived.Test.YtfmhmokbbkliaaaGreatB42
import Derived.Test.YtfmhmokbbkliaaaGreatB40
import Derived.Deep.Cut
import Derived.Deep.DeepCutAuto
namespace Go.Proofs.YtfmhmokbbkliaaaGreat.journalForged
open Go.ChangeShapes Go.WideShapes Go.ChangeAt Go.RowKit Go.Proofs.YtfmhmokbbkliaaaGreat Go.Proofs.YtfmhmokbbkliaaaGreat.Wir Go.Proofs.YtfmhmokbbkliaaaGreat.Lgg Go.Proofs.YtfmhmokbbkliaaaGreat.Sep Go.Proofs.YtfmhmokbbkliaaaGreat.Jrn
open Go.ChangeMaps (open_string shut_string)
set_option linter.unusedVariables false

theorem own : ownKnob Tryz.prog.godebug = none := by kernel_rfl
theorem num0_size : (numT 0).size = 1 := by
  have h : numT 0 = ⟨(numB 0).toArray⟩ := rfl
  rw [h, mk_size]
  have h2 : numB 0 = Lib.uvarint (Lib.zigzag 0) := rfl
  rw [h2]
  have h3 : Lib.zigzag 0 = 0 := by decide
  rw [h3, Lib.uvarint_small (by omega)]
  rfl
theorem num0 : ∃ X : ByteArray, X.size = 1 ∧ ∀ w, Calls Tryz.prog 35 #[.int .i64 0] w fun e w' => e = .returned (.string X) ∧ Below w.heap.size w w' :=
  ⟨numT 0, num0_size, fun w => num_val 0 _ w (by omega) (by omega) rfl⟩

theorem emp {P : ByteArray} (h : P.size = 0) : P = ⟨#[]⟩ := by
  apply Go.WideShapes.bytes_inj
  have h8 : P.data.toList.length = 0 := by rw [Wir.size_list]; exact h
  rw [List.length_eq_zero_iff.1 h8]
theorem emp2 {P : ByteArray} (h : P.toList.isEmpty = false) : (P.toList == []) = false := by
  cases hl : P.toList with
  | nil => rw [hl] at h; cases h
  | cons x l => rfl

set_option maxRecDepth 100000 in
set_option maxHeartbeats 16000000 in
theorem walk_b (P L : ByteArray) (a0 : Option Addr) (cap0 n0 : Nat) (us : List JDd) (w : World) (hPm : P.size ≤ maxLen) (hLm : L.size ≤ maxLen) (hn0 : us.length = n0) (hU : JDds w a0 us) :
    Calls Tryz.prog 5 #[.string P, .string L, .slice a0 n0 cap0] w fun e w' => e = .returned (.bool true) ∧ Below w.heap.size w w' := by
  have hx1 : n0 ≤ 9223372036854775807 := by have := hU.lie.lid; unfold maxLen at this; omega
  have HN : Hid (us.length = n0) := hn0
  have HU : Hid (JDds w a0 us) := hU
  clear hn0 hU
  unfold maxLen at hPm hLm
  by_cases hbig : 20000 < P.size ∨ (¬ 20000 < P.size ∧ 20000 < L.size)
  · rcases hbig with h1 | ⟨h1, h2⟩
    · have hd1 : decide ((20000 : Int) < (P.size : Int)) = true := decide_eq_true (by omega)
      go_enter Tryz.func5, Tryz.ntmps5
      go_wp2_with fail
      refine (examples15_val _).mono ?_
      rintro e w2 ⟨rfl, b⟩
      go_wp2
      go_ret
      exact ⟨rfl, b⟩
    · have hd1 : decide ((20000 : Int) < (P.size : Int)) = false := decide_eq_false (by omega)
      have hd2 : decide ((20000 : Int) < (L.size : Int)) = true := decide_eq_true (by omega)
      go_enter Tryz.func5, Tryz.ntmps5
      go_wp2_with fail
      refine (examples15_val _).mono ?_
      rintro e w2 ⟨rfl, b⟩
      go_wp2
      go_ret
      exact ⟨rfl, b⟩
  have hd1 : decide ((20000 : Int) < (P.size : Int)) = false := decide_eq_false (by omega)
  have hd2 : decide ((20000 : Int) < (L.size : Int)) = false := decide_eq_false (by omega)
  have hd3 : ¬ 20000 < P.size := fun h => hbig (.inl h)
  have hd4 : ¬ 20000 < L.size := fun h => hbig (.inr ⟨hd3, h⟩)
  have HSZ : Hid (P.size ≤ 20000 ∧ L.size ≤ 20000) := ⟨by omega, by omega⟩
  clear hbig hPm hLm
  obtain ⟨X0, hX0, hX1⟩ := num0
  have CNm : Hid (∀ w, Calls Tryz.prog 35 #[.int .i64 0] w fun e w' => e = .returned (.string X0) ∧ Below w.heap.size w w') := hX1
  clear hX1
  have hst2 : ∀ (w : World) (a : Addr) (x : Option Addr) (n c : Nat) (m : Mode), (store a (.slice x n c) m).run Tryz.prog w = stored Tryz.prog w a (.slice x n c) m := fun w a x n c m => run_store (P := Tryz.prog) w a _ m rfl
  go_enter Tryz.func5, Tryz.ntmps5
  go_wp2_with fail
  refine (examples15_val _).mono ?_
  rintro e w2 ⟨rfl, b⟩
  have HZ2 : Hid (Hz w (fun _ => False) [] w2) := (hz_none w).below b
  clear b
  go_wp2_with fail
  refine (new_hz HZ2.out 400000 400000 (by omega) (by omega)).mono ?_
  rintro e w3 ⟨jd, rfl, hz⟩
  have HZ3 : Hid (Hz w (fun _ => False) [dsk jd ⟨400000, 0, false, []⟩] w3) := hz
  clear hz HZ2
  go_wp2_with fail
  refine (rnew_hz HZ3.out 400000 400000 (by omega) (by omega) (fit_get (pd := jd) HZ3.out 0 rfl)).mono ?_
  rintro e w4 ⟨xd, rfl, hz⟩
  have HZ4 : Hid (Hz w (fun _ => False) [xdk xd ⟨400000, 0, false, []⟩, dsk jd ⟨400000, 0, false, []⟩] w4) := hz
  clear hz HZ3 hd1 hd2 hd3 hd4
  obtain ⟨bP, hbP⟩ : ∃ b, P.toList.isEmpty = b := ⟨_, rfl⟩
  go_upto_if 33 with fail
  go_cut [] (fun wx => ∃ D, Hz w (fun _ => False) [xdk xd D, dsk jd D] wx)
  case first =>
    cases bP with
    | true =>
      go_wp2
      go_meet
      case rel => exact ⟨_, HZ4.out⟩
    | false =>
      obtain ⟨q, hq⟩ : ∃ q, begE ⟨400000, 0, false, []⟩ (refA ⟨400000, 0, false, []⟩ prN.data.toList P.data.toList) = q := ⟨_, rfl⟩
      obtain ⟨D1, hD⟩ : ∃ d, doD ⟨400000, 0, false, []⟩ (refA ⟨400000, 0, false, []⟩ prN.data.toList P.data.toList) (fapp prN.data.toList P.data.toList) = d := ⟨_, rfl⟩
      have HQ : Hid (begE ⟨400000, 0, false, []⟩ (refA ⟨400000, 0, false, []⟩ prN.data.toList P.data.toList) = q ∧ doD ⟨400000, 0, false, []⟩ (refA ⟨400000, 0, false, []⟩ prN.data.toList P.data.toList) (fapp prN.data.toList P.data.toList) = D1) := ⟨hq, hD⟩
      clear hq hD
      go_wp2_with fail
      refine (HZ4.out.act 1 rfl (append_acts prN P pr_small (by have := HSZ.out; omega) q HQ.out.1 HQ.out.2)).mono ?_
      rintro e w5 ⟨rfl, hz⟩
      have HZ5 : Hid (Hz w (fun _ => False) [xdk xd ⟨400000, 0, false, []⟩, dsk jd D1] w5) := hz
      clear hz HZ4
      go_wp2_with fail
      refine (HZ5.out.act 0 rfl (rappend_acts prN P pr_small (by have := HSZ.out; omega) q HQ.out.1 HQ.out.2)).mono ?_
      rintro e w6 ⟨rfl, hz⟩
      go_wp2
      go_meet
      case rel => exact ⟨D1, hz⟩
  case rest =>
  obtain ⟨D1, hz⟩ := hcut
  have HZ6 : Hid (Hz w (fun _ => False) [xdk xd D1, dsk jd D1] wc) := hz
  clear hz HZ4
  rename World => wv
  obtain ⟨bL, hbL⟩ : ∃ b, L.toList.isEmpty = b := ⟨_, rfl⟩
  go_upto_if 41 with fail
  go_cut [] (fun wx => ∃ D, Hz w (fun _ => False) [xdk xd D, dsk jd D] wx)
  case first =>
    cases bL with
    | true =>
      go_wp2
      go_meet
      case rel => exact ⟨_, HZ6.out⟩
    | false =>
      obtain ⟨q2, hq2⟩ : ∃ q, begE D1 (refA D1 Jrn.lgN.data.toList L.data.toList) = q := ⟨_, rfl⟩
      obtain ⟨D2, hD2⟩ : ∃ d, doD D1 (refA D1 Jrn.lgN.data.toList L.data.toList) (fapp Jrn.lgN.data.toList L.data.toList) = d := ⟨_, rfl⟩
      have HQ2 : Hid (begE D1 (refA D1 Jrn.lgN.data.toList L.data.toList) = q2 ∧ doD D1 (refA D1 Jrn.lgN.data.toList L.data.toList) (fapp Jrn.lgN.data.toList L.data.toList) = D2) := ⟨hq2, hD2⟩
      clear hq2 hD2
      go_wp2_with fail
      refine (HZ6.out.act 1 rfl (append_acts Jrn.lgN L Jrn.lg_small (by have := HSZ.out; omega) q2 HQ2.out.1 HQ2.out.2)).mono ?_
      rintro e w7 ⟨rfl, hz⟩
      have HZ7 : Hid (Hz w (fun _ => False) [xdk xd D1, dsk jd D2] w7) := hz
      clear hz HZ6
      go_wp2_with fail
      refine (HZ7.out.act 0 rfl (rappend_acts Jrn.lgN L Jrn.lg_small (by have := HSZ.out; omega) q2 HQ2.out.1 HQ2.out.2)).mono ?_
      rintro e w8 ⟨rfl, hz⟩
      go_wp2
      go_meet
      case rel => exact ⟨D2, hz⟩
  case rest =>
  obtain ⟨D2, hz⟩ := hcut
  have HZ8 : Hid (Hz w (fun _ => False) [xdk xd D2, dsk jd D2] wc) := hz
  clear hz HZ6
  obtain ⟨⟨er, dd, nd⟩, hop⟩ : ∃ o, openQ D2 = o := ⟨_, rfl⟩
  have HOP : Hid (openQ D2 = (er, dd, nd)) := hop
  have hnd : NdOk nd := by have := openQ_ok D2; rw [hop] at this; exact this
  have HND : Hid (NdOk nd ∧ Jrn.Twin nd nd) := ⟨hnd, twin_open hnd⟩
  clear hop hnd
  by_cases her : er = 0
  · subst her
    go_wp2_with fail
    refine (open_hz HZ8.out.swap HOP.out).mono ?_
    rintro e w9 ⟨jp, rfl, hz⟩
    have HZ9 : Hid (Hz w (fun _ => False) [jr jp jd dd nd, xdk xd D2] w9) := hz
    clear hz HZ8
    go_wp2_with fail
    refine (ropen_yes HZ9.out.swap nd HOP.out).mono ?_
    rintro e w10 ⟨yp, rfl, hz⟩
    have HZ10 : Hid (Hz w (fun _ => False) [jr jp jd dd nd, rj yp xd dd nd] w10) := hz.swap
    clear hz HZ9
    go_wp2
    go_loopw [14] (fun vi wr => ∃ (k : Nat) (ds : DS) (j r : Nd), k ≤ n0 ∧ k ≤ 6 ∧ vi = .int .i64 k ∧ (NdOk j ∧ Jrn.Twin j r) ∧ Hz w (fun _ => False) [jr jp jd ds j, rj yp xd ds r] wr) (fun vi _ => 6 - (intOf vi).toNat)
    case atStart => exact ⟨0, _, nd, nd, by omega, by omega, rfl, HND.out, HZ10.out⟩
    case round =>
      obtain ⟨k, ds, j, r, hkn, hk6, rfl, hj, hz⟩ := hrel
      have HZ : Hid (Hz w (fun _ => False) [jr jp jd ds j, rj yp xd ds r] wr) := hz
      have HJ : Hid (NdOk j ∧ Jrn.Twin j r) := hj
      clear hz hj HZ10
      by_cases hlt : k < n0 ∧ k < 6
      · obtain ⟨hlt0, hlt1⟩ := hlt
        have hk0 : k < us.length := by rw [HN.out]; exact hlt0
        obtain ⟨ub, uo, hua, hcell⟩ := HU.out.lie.at wideJD hk0
        have hok := HU.out.each _ (List.getElem_mem hk0)
        generalize us[k] = u at *
        subst hua
        obtain ⟨xkd, xue, xea, xec, xes, ⟨xtx, xxd⟩, xraw, xun, xka, xkb, xko, xkc, xks⟩ := u
        have g0 := hcell 0 _ rfl
        have g1 := hcell 1 _ rfl
        have g2 := hcell 2 _ rfl
        have g3 := hcell 3 _ rfl
        have g4 := hcell 4 _ rfl
        have g5 := hcell 5 _ rfl
        have g6 := hcell 6 _ rfl
        have g7 := hcell 7 _ rfl
        simp only [← Nat.add_assoc, Nat.add_zero] at g0 g1 g2 g3 g4 g5 g6 g7
        obtain ⟨em, hem⟩ : ∃ m, xes.length = m := ⟨_, rfl⟩
        obtain ⟨mk2, hmk⟩ : ∃ m, xks.length = m := ⟨_, rfl⟩
        rw [hem] at g2
        rw [hmk] at g7
        have HG : Hid (∀ W, Below w.heap.size w W → W.cell? ⟨ub, uo + k * 8, none⟩ = some (.int .i64 xkd) ∧ W.cell? ⟨ub, uo + k * 8 + 1, none⟩ = some (.int .i64 xue) ∧ W.cell? ⟨ub, uo + k * 8 + 2, none⟩ = some (.slice xea em xec) ∧ W.cell? ⟨ub, uo + k * 8 + 3, none⟩ = some (.int .i64 xtx) ∧ W.cell? ⟨ub, uo + k * 8 + 4, none⟩ = some (.string xxd) ∧ W.cell? ⟨ub, uo + k * 8 + 5, none⟩ = some (.string xraw) ∧ W.cell? ⟨ub, uo + k * 8 + 6, none⟩ = some (.int .i64 xun) ∧ W.cell? ⟨ub, uo + k * 8 + 7, none⟩ = some (.slice xka mk2 xkc)) := fun W hb => ⟨bel_cell hb g0, bel_cell hb g1, bel_cell hb g2, bel_cell hb g3, bel_cell hb g4, bel_cell hb g5, bel_cell hb g6, bel_cell hb g7⟩
        obtain ⟨q1, q2, q3, q3t, q4, q5, q6, q7, q8, q9⟩ := hok
        simp only at q1 q2 q3 q3t q4 q5 q6 q7 q8 q9
        obtain ⟨S, hS⟩ : ∃ S, askT xkd xue xes ⟨xtx, xxd⟩ xraw = S := ⟨_, rfl⟩
        have CA : Hid (∀ W, Below w.heap.size w W → Calls Tryz.prog 29 #[.agg #[.int .i64 xkd, .int .i64 xue, .slice xea em xec, .int .i64 xtx, .string xxd, .string xraw, .int .i64 xun, .slice xka mk2 xkc]] W fun e w' => e = .returned (.string S) ∧ Below W.heap.size W w') := fun W hb => asked_val xkd xue xea em xec xes ⟨xtx, xxd⟩ xraw xun xka mk2 xkc (q3.row.below hb) q3.small q1 q2 q4 hem S hS
        have HS : Hid (S.size ≤ maxLen) := by show S.size ≤ maxLen; rw [← hS]; exact ask_small q5
        clear hcell hem hmk q1 q2 q3 q3t q4 q5 q6 q7 q8 q9 hk0 hS g0 g1 g2 g3 g4 g5 g6 g7
        have hlk := hand_like (ds := ds) HJ.out.1 HJ.out.2 S
        have hok1 := handQ_ok (ds := ds) HJ.out.1 S
        obtain ⟨T, hT⟩ : ∃ T, (handQ ds j S).t = T := ⟨_, rfl⟩
        obtain ⟨ds1, hd1⟩ : ∃ d, (handQ ds j S).ds = d := ⟨_, rfl⟩
        obtain ⟨j1, hj1⟩ : ∃ x, (handQ ds j S).j = x := ⟨_, rfl⟩
        obtain ⟨r1, hr1⟩ : ∃ x, (refHandQ ds r S).j = x := ⟨_, rfl⟩
        rw [hj1, hr1] at hlk
        rw [hj1] at hok1
        have HD : Hid ((handQ ds j S).t = T ∧ (handQ ds j S).ds = ds1 ∧ (handQ ds j S).j = j1 ∧ (refHandQ ds r S).j = r1) := ⟨hT, hd1, hj1, hr1⟩
        have HJ1 : Hid (NdOk j1 ∧ Jrn.Twin j1 r1) := ⟨hok1, hlk.2.2⟩
        have hTT : (T.toList == T.toList) = true := by simp
        clear hlk hok1 hT hd1 hj1 hr1
        obtain ⟨g0, g1, g2, g3, g4, g5, g6, g7⟩ := HG.out _ (hz_bel HZ.out)
        go_wp2_with fail
        refine (CA.out _ (hz_bel HZ.out)).mono ?_
        rintro e w11 ⟨rfl, b⟩
        have HZ11 : Hid (Hz w (fun _ => False) [jr jp jd ds j, rj yp xd ds r] w11) := HZ.out.below b
        clear b HZ g0 g1 g2 g3 g4 g5 g6 g7
        go_wp2_with fail
        refine (hand_hzT HZ11.out 0 rfl HJ.out.1 S HS.out T HD.out.1 HD.out.2.2.1 HD.out.2.1).mono ?_
        rintro e w12 ⟨rfl, hz⟩
        have HZ12 : Hid (Hz w (fun _ => False) [jr jp jd ds1 j1, rj yp xd ds r] w12) := hz
        clear hz HZ11
        obtain ⟨g0, g1, g2, g3, g4, g5, g6, g7⟩ := HG.out _ (hz_bel HZ12.out)
        go_wp2_with fail
        refine (CA.out _ (hz_bel HZ12.out)).mono ?_
        rintro e w13 ⟨rfl, b⟩
        have HZ13 : Hid (Hz w (fun _ => False) [jr jp jd ds1 j1, rj yp xd ds r] w13) := HZ12.out.below b
        clear b HZ12 g0 g1 g2 g3 g4 g5 g6 g7
        go_wp2_with fail
        refine (rhand_hz HZ13.out.swap HJ.out.1 HJ.out.2 S HS.out T HD.out.1 ds1 HD.out.2.1).mono ?_
        rintro e w14 ⟨rfl, hz⟩
        have HZ14 : Hid (Hz w (fun _ => False) [jr jp jd ds1 j1, rj yp xd ds1 r1] w14) := by have h9 := hz.swap; rw [HD.out.2.2.2] at h9; exact h9
        clear hz HZ13
        go_wp2
        go_roundw
        case rel => exact ⟨k + 1, ds1, j1, r1, by omega, by omega, by go_num, HJ1.out, HZ14.out⟩
        case measure => simp [intOf]; omega
      · have hex : n0 ≤ k ∨ (k < n0 ∧ 6 ≤ k) := by omega
        clear hlt HN HU
        rcases hex with c1 | ⟨c1, c2⟩
        all_goals
          go_wp2_with (first
            | (go_at_call 31; refine (disks_hz (two_disks HZ.out)).mono ?_; rintro e wX ⟨rfl, b⟩; have BX : Hid (Below w.heap.size w wX) := hz_bel (HZ.out.below b); clear b)
            | (go_at_call 35; refine (CNm.out _).mono ?_; rintro e wY ⟨rfl, b⟩; have BY : Hid (Below w.heap.size w wY) := bel_tr BX.out b; clear b))
          go_ret
          exact ⟨rfl, BY.out⟩
  · have hne : (er != er) = false := by simp
    have hee : (er == er) = true := beq_self_eq_true er
    go_wp2_with fail
    refine (oopen_no HZ8.out.swap nd er her HOP.out).mono ?_
    rintro e w9 ⟨rfl, hz⟩
    have HZ9 : Hid (Hz w (fun _ => False) [dsk jd dd, xdk xd D2] w9) := hz
    clear hz HZ8
    go_wp2_with fail
    refine (ropen_no HZ9.out.swap nd er her HOP.out).mono ?_
    rintro e w10 ⟨rfl, hz⟩
    have HZ10 : Hid (Hz w (fun _ => False) [dsk jd dd, xdk xd dd] w10) := hz.swap
    clear hz HZ9
    go_wp2
    go_loopw [14] (fun vi wr => vi = .int .i64 0 ∧ Hz w (fun _ => False) [dsk jd dd, xdk xd dd] wr) (fun _ _ => 0)
    case atStart => exact ⟨rfl, HZ10.out⟩
    case round =>
      obtain ⟨rfl, hz⟩ := hrel
      have HZ : Hid (Hz w (fun _ => False) [dsk jd dd, xdk xd dd] wr) := hz
      clear hz HZ10 HN HU
      have hex : n0 = 0 ∨ 0 < n0 := by omega
      rcases hex with rfl | c1
      all_goals
        go_wp2_with (first
          | (go_at_call 31; refine (disks_hz HZ.out).mono ?_; rintro e wX ⟨rfl, b⟩; have BX : Hid (Below w.heap.size w wX) := hz_bel (HZ.out.below b); clear b)
          | (go_at_call 35; refine (CNm.out _).mono ?_; rintro e wY ⟨rfl, b⟩; have BY : Hid (Below w.heap.size w wY) := bel_tr BX.out b; clear b))
        go_ret
        exact ⟨rfl, BY.out⟩

theorem walk (P L : ByteArray) (a0 : Option Addr) (cap0 : Nat) (us : List JDd) (w : World) (w0 : P.size ≤ maxLen) (w1 : L.size ≤ maxLen) (w2 : JDds w a0 us) :
    Calls Tryz.prog 5 #[.string P, .string L, .slice a0 us.length cap0] w fun e w' => e = .returned (.bool true) ∧ Below w.heap.size w w' :=
  walk_b P L a0 cap0 _ us w w0 w1 rfl w2

set_option maxRecDepth 100000 in
theorem lifted (os : Os) (started : os.Started) (H : Type) (enc : TypeId × Value → H) :
    ReturnsInHanded {} Tryz.checked os 5 .any (Rows.journalForgedSpec.pre6 enc Tryz.prog Tryz.f5 Rows.journalForgedRow.domain false) (Rows.journalForgedSpec.post enc Tryz.prog Tryz.f5 false true false false) := by
  refine returnsInHanded_of_change (C := Tryz.checked) own started (by kernel_rfl) Tryz.func5
    (ChangeSpec.witness6 (enc := enc) (C := Tryz.checked) false ⟨#[], #[.string ByteArray.empty, .string ByteArray.empty, .slice none 0 0], []⟩ 8 (by kernel_rfl) (by kernel_rfl) (by kernel_rfl) (by kernel_rfl)) ?_
  intro W base args ds gs before hval0 hW hcnd _
  have hval : ∀ (j : Nat) t v, Tryz.f5.params[j]? = some t → args[j]? = some v → Value.okWide Tryz.prog W .any base t v := hval0
  have hW' := hW
  obtain ⟨p, q, hA0, hV, rfl, hfz, hnd⟩ := hW
  have hA : DataW.TrodAll enc Tryz.prog W 0 (fun _ => true) true Tryz.f5.params.toList args.toList ds p := hA0
  rw [Tryz.params5] at hA hval
  obtain ⟨v0, vs0, d0, ds0, p0, q0, hargs, rfl, rfl, h0, r0⟩ := trodAll_cons hA
  obtain ⟨v1, vs1, d1, ds1, p1, q1, rfl, rfl, rfl, h1, r1⟩ := trodAll_cons r0
  obtain ⟨v2, vs2, d2, ds2, p2, q2, rfl, rfl, rfl, h2, r2⟩ := trodAll_cons r1
  obtain ⟨rfl, rfl, rfl⟩ := trodAll_nil r2
  obtain rfl : args = #[v0, v1, v2] := by cases args; simp_all
  obtain ⟨rfl, rfl⟩ := trodVars_none hV
  obtain ⟨a0, rfl, rfl, rfl, w0⟩ := open_string Tryz.underlying9 (hval 0 9 v0 rfl rfl) h0
  obtain ⟨a1, rfl, rfl, rfl, w1⟩ := open_string Tryz.underlying9 (hval 1 9 v1 rfl rfl) h1
  obtain ⟨a2, len2, cap2, rfl⟩ := okWide_slice Tryz.underlying42 (hval 2 42 v2 rfl rfl)
  have k2 := h2
  have lt2 : ∀ x ∈ p2, x.block < W.heap.size := by obtain ⟨m, hm⟩ := k2; exact DataW.trod_lt m _ _ _ hm
  obtain ⟨ss2, y2, w2⟩ := Jrn.open_jdeeds h2
  subst y2
  clear hA0 hval0
  refine (walk a0 a1 a2 cap2 ss2 W w0 w1 w2).mono fun e W' ⟨he, bel⟩ => ?_
  subst he
  exact ⟨_, rfl, _, _, _, [], _, [], hW', trodAll_mk1 (shut_bool Tryz.underlying4 _), (trodAll_cons_mk (shut_string Tryz.underlying9 w0) (trodAll_cons_mk (shut_string Tryz.underlying9 w1) (trodAll_cons_mk (Below.trod laidOut (by kernel_rfl) (of_decide_eq_true (by kernel_rfl)) k2 bel lt2) trodAll_mk0))), rfl, bel.frame _, fun h => by cases h⟩

theorem over : Rows.journalForgedRow.holds Tryz.pinned (OpenSpec.ofChange Rows.journalForgedSpec) :=
  OpenClaim.holds_of_wide 5 Tryz.f5 rfl rfl rfl rfl rfl rfl rfl ⟨rfl, rfl, rfl, rfl, rfl⟩ rfl rfl rfl rfl rfl (by kernel_rfl) Tryz.func5 (by kernel_rfl)
    (of_decide_eq_true (by kernel_rfl)) (by unfold Func.isWrapper; first | (rw [if_pos (by decide +kernel)]; kernel_rfl) | (rw [if_neg (by decide +kernel)]; exact ⟨rfl, rfl⟩))
    (fun os started H enc _ => lifted os started H enc)
end Go.Proofs.YtfmhmokbbkliaaaGreat.journalForged

namespace Go.Proofs.YtfmhmokbbkliaaaGreat
/-- The statement. -/
theorem journalForged_holds : Rows.JournalForgedSaid := journalForged.over
#print axioms journalForged_holds
end Go.Proofs.YtfmhmokbbkliaaaGreat
