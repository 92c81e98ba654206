/- Part 42 of the proof: TreeR1. -/
import Derived.Test.YtcnflkjkgomnoaaGreatB13
import Derived.Test.YtcnflkjkgomnoaaGreatB18
set_option maxRecDepth 100000
set_option maxHeartbeats 8000000
namespace Go.Proofs.YtcnflkjkgomnoaaGreat
open Go.RowKit
theorem refFits_val (x : NR) (v : Bool) (w : World) (hx : NdOk w x) (hv : fitsB x.1 = v) :
    Calls Tryz.prog 110 #[ndV x] w fun e w' => e = .returned (.bool v) ∧ Below w.heap.size w w' := by
  have HX : Hid (NdOk w x) := hx
  have hlen := hx.bs.len
  have hs := hx.small
  obtain ⟨⟨p, d, q, bs, wr⟩, ⟨a, n, c⟩⟩ := x
  have hn : bs.length = n := hlen
  have HN : Hid (bs.length = n) := hn
  have HS : Hid (p.size ≤ maxLen) := hs
  unfold fitsB dirB fileB headB at hv; simp only [hn] at hv
  unfold ndV; have HSX : Hid (splitX p = (splitN p, splitE p)) := splitX_pair p
  obtain ⟨m, hm⟩ : ∃ m, (splitN p).length = m := ⟨_, rfl⟩
  have HM : Hid ((splitN p).length = m) := hm
  clear hx hlen hn hs hm; by_cases hE : splitE p = 0
  · have hpb : pathB p = true := by unfold pathB; rw [hE]; rfl
    rw [hE] at HSX
    rw [hpb, Bool.true_and] at hv
    clear hpb hE; generalize splitN p = N at *
    cases d with
    | true =>
      simp only [if_true] at hv
      by_cases hc0 : n = 0
      · have f0 : ((n : Int) == 0) = true := by simp; omega
        by_cases hc1 : wr = -1
        · have f1 : (wr == -1) = true := by simpa using hc1
          by_cases hc2 : -1 ≤ q
          · have f2 : decide (-1 ≤ q) = true := decide_eq_true hc2
            by_cases hc3 : q ≤ 9007199254740991
            · have f3 : decide (q ≤ 9007199254740991) = true := decide_eq_true hc3
              have hv0 : v = true := by rw [← hv]; simp [hc0, hc1, hc2, hc3]
              subst hv0; clear hv; clear hc0 hc1 hc2 hc3; go_enter Tryz.func110, Tryz.ntmps110; go_wp2_with fail
              refine (refSplit_val p N 0 m _ HS.out HSX.out HM.out).mono ?_
              rintro e w1 ⟨a1, b1, cap1, rfl, hS1, c1⟩; have B1 : Hid (Below w.heap.size w w1) := bel_tr (bel_al _ _) c1
              have y0 := bel_cell c1 (World.cell?_alloc_new w _ _ 0)
              have y1 := bel_cell c1 (World.cell?_alloc_new w _ _ 1)
              have y2 := bel_cell c1 (World.cell?_alloc_new w _ _ 2)
              have y3 := bel_cell c1 (World.cell?_alloc_new w _ _ 3)
              have y4 := bel_cell c1 (World.cell?_alloc_new w _ _ 4)
              clear hS1 c1; go_wp2; go_ret; exact ⟨rfl, B1.out⟩
            · have f3 : decide (q ≤ 9007199254740991) = false := decide_eq_false hc3
              have hv0 : v = false := by rw [← hv]; simp [hc3]
              subst hv0; clear hv; clear hc0 hc1 hc2 hc3; go_enter Tryz.func110, Tryz.ntmps110; go_wp2_with fail
              refine (refSplit_val p N 0 m _ HS.out HSX.out HM.out).mono ?_
              rintro e w1 ⟨a1, b1, cap1, rfl, hS1, c1⟩; have B1 : Hid (Below w.heap.size w w1) := bel_tr (bel_al _ _) c1
              have y0 := bel_cell c1 (World.cell?_alloc_new w _ _ 0)
              have y1 := bel_cell c1 (World.cell?_alloc_new w _ _ 1)
              have y2 := bel_cell c1 (World.cell?_alloc_new w _ _ 2)
              have y3 := bel_cell c1 (World.cell?_alloc_new w _ _ 3)
              have y4 := bel_cell c1 (World.cell?_alloc_new w _ _ 4)
              clear hS1 c1; go_wp2; go_ret; exact ⟨rfl, B1.out⟩
          · have f2 : decide (-1 ≤ q) = false := decide_eq_false hc2
            have hv0 : v = false := by rw [← hv]; simp [hc2]
            subst hv0; clear hv; clear hc0 hc1 hc2; go_enter Tryz.func110, Tryz.ntmps110; go_wp2_with fail
            refine (refSplit_val p N 0 m _ HS.out HSX.out HM.out).mono ?_
            rintro e w1 ⟨a1, b1, cap1, rfl, hS1, c1⟩; have B1 : Hid (Below w.heap.size w w1) := bel_tr (bel_al _ _) c1
            have y0 := bel_cell c1 (World.cell?_alloc_new w _ _ 0)
            have y1 := bel_cell c1 (World.cell?_alloc_new w _ _ 1)
            have y2 := bel_cell c1 (World.cell?_alloc_new w _ _ 2)
            have y3 := bel_cell c1 (World.cell?_alloc_new w _ _ 3)
            have y4 := bel_cell c1 (World.cell?_alloc_new w _ _ 4)
            clear hS1 c1; go_wp2; go_ret; exact ⟨rfl, B1.out⟩
        · have f1 : (wr == -1) = false := by simpa using hc1
          have hv0 : v = false := by rw [← hv]; simp [hc1]
          subst hv0; clear hv; clear hc0 hc1; go_enter Tryz.func110, Tryz.ntmps110; go_wp2_with fail
          refine (refSplit_val p N 0 m _ HS.out HSX.out HM.out).mono ?_
          rintro e w1 ⟨a1, b1, cap1, rfl, hS1, c1⟩; have B1 : Hid (Below w.heap.size w w1) := bel_tr (bel_al _ _) c1
          have y0 := bel_cell c1 (World.cell?_alloc_new w _ _ 0)
          have y1 := bel_cell c1 (World.cell?_alloc_new w _ _ 1)
          have y2 := bel_cell c1 (World.cell?_alloc_new w _ _ 2)
          have y3 := bel_cell c1 (World.cell?_alloc_new w _ _ 3)
          have y4 := bel_cell c1 (World.cell?_alloc_new w _ _ 4)
          clear hS1 c1; go_wp2; go_ret; exact ⟨rfl, B1.out⟩
      · have f0 : ((n : Int) == 0) = false := by simp; omega
        have hv0 : v = false := by rw [← hv]; simp [hc0]
        subst hv0; clear hv; clear hc0; go_enter Tryz.func110, Tryz.ntmps110; go_wp2_with fail
        refine (refSplit_val p N 0 m _ HS.out HSX.out HM.out).mono ?_
        rintro e w1 ⟨a1, b1, cap1, rfl, hS1, c1⟩; have B1 : Hid (Below w.heap.size w w1) := bel_tr (bel_al _ _) c1
        have y0 := bel_cell c1 (World.cell?_alloc_new w _ _ 0)
        have y1 := bel_cell c1 (World.cell?_alloc_new w _ _ 1)
        have y2 := bel_cell c1 (World.cell?_alloc_new w _ _ 2)
        have y3 := bel_cell c1 (World.cell?_alloc_new w _ _ 3)
        have y4 := bel_cell c1 (World.cell?_alloc_new w _ _ 4)
        clear hS1 c1; go_wp2; go_ret; exact ⟨rfl, B1.out⟩
    | false =>
      simp only [Bool.false_eq_true, if_false] at hv
      have e47 := root_eq p
      by_cases hb0 : p = rootP
      · rw [decide_eq_true hb0] at e47
        have hv0 : v = false := by rw [← hv, decide_eq_true hb0]; simp
        subst hv0; clear hv hb0; go_enter Tryz.func110, Tryz.ntmps110; go_wp2_with fail
        refine (refSplit_val p N 0 m _ HS.out HSX.out HM.out).mono ?_
        rintro e w1 ⟨a1, b1, cap1, rfl, hS1, c1⟩; have B1 : Hid (Below w.heap.size w w1) := bel_tr (bel_al _ _) c1
        have y0 := bel_cell c1 (World.cell?_alloc_new w _ _ 0)
        have y1 := bel_cell c1 (World.cell?_alloc_new w _ _ 1)
        have y2 := bel_cell c1 (World.cell?_alloc_new w _ _ 2)
        have y3 := bel_cell c1 (World.cell?_alloc_new w _ _ 3)
        have y4 := bel_cell c1 (World.cell?_alloc_new w _ _ 4)
        clear hS1 c1; go_wp2; go_ret; exact ⟨rfl, B1.out⟩
      · rw [decide_eq_false hb0] at e47
        by_cases hb1 : q ≠ -1
        · have f1 : (q != -1) = true := by simpa using hb1
          have hv0 : v = false := by rw [← hv, decide_eq_false (show ¬ q = -1 from hb1)]; simp
          subst hv0; clear hv hb0 hb1; go_enter Tryz.func110, Tryz.ntmps110; go_wp2_with fail
          refine (refSplit_val p N 0 m _ HS.out HSX.out HM.out).mono ?_
          rintro e w1 ⟨a1, b1, cap1, rfl, hS1, c1⟩; have B1 : Hid (Below w.heap.size w w1) := bel_tr (bel_al _ _) c1
          have y0 := bel_cell c1 (World.cell?_alloc_new w _ _ 0)
          have y1 := bel_cell c1 (World.cell?_alloc_new w _ _ 1)
          have y2 := bel_cell c1 (World.cell?_alloc_new w _ _ 2)
          have y3 := bel_cell c1 (World.cell?_alloc_new w _ _ 3)
          have y4 := bel_cell c1 (World.cell?_alloc_new w _ _ 4)
          clear hS1 c1; go_wp2; go_ret; exact ⟨rfl, B1.out⟩
        · have f1 : (q != -1) = false := by simpa using hb1
          by_cases hb2 : wr < -1
          · have f2 : decide (wr < -1) = true := decide_eq_true hb2
            have hv0 : v = false := by rw [← hv, decide_eq_false (show ¬ -1 ≤ wr by omega)]; simp
            subst hv0; clear hv hb0 hb1 hb2; go_enter Tryz.func110, Tryz.ntmps110; go_wp2_with fail
            refine (refSplit_val p N 0 m _ HS.out HSX.out HM.out).mono ?_
            rintro e w1 ⟨a1, b1, cap1, rfl, hS1, c1⟩; have B1 : Hid (Below w.heap.size w w1) := bel_tr (bel_al _ _) c1
            have y0 := bel_cell c1 (World.cell?_alloc_new w _ _ 0)
            have y1 := bel_cell c1 (World.cell?_alloc_new w _ _ 1)
            have y2 := bel_cell c1 (World.cell?_alloc_new w _ _ 2)
            have y3 := bel_cell c1 (World.cell?_alloc_new w _ _ 3)
            have y4 := bel_cell c1 (World.cell?_alloc_new w _ _ 4)
            clear hS1 c1; go_wp2; go_ret; exact ⟨rfl, B1.out⟩
          · have f2 : decide (wr < -1) = false := decide_eq_false hb2
            by_cases hb3 : 4 ≤ wr
            · have f3 : decide (4 ≤ wr) = true := decide_eq_true hb3
              have hv0 : v = false := by rw [← hv, decide_eq_false (show ¬ wr ≤ 3 by omega)]; simp
              subst hv0; clear hv hb0 hb1 hb2 hb3; go_enter Tryz.func110, Tryz.ntmps110; go_wp2_with fail
              refine (refSplit_val p N 0 m _ HS.out HSX.out HM.out).mono ?_
              rintro e w1 ⟨a1, b1, cap1, rfl, hS1, c1⟩; have B1 : Hid (Below w.heap.size w w1) := bel_tr (bel_al _ _) c1
              have y0 := bel_cell c1 (World.cell?_alloc_new w _ _ 0)
              have y1 := bel_cell c1 (World.cell?_alloc_new w _ _ 1)
              have y2 := bel_cell c1 (World.cell?_alloc_new w _ _ 2)
              have y3 := bel_cell c1 (World.cell?_alloc_new w _ _ 3)
              have y4 := bel_cell c1 (World.cell?_alloc_new w _ _ 4)
              clear hS1 c1; go_wp2; go_ret; exact ⟨rfl, B1.out⟩
            · have f3 : decide (4 ≤ wr) = false := decide_eq_false hb3
              by_cases hb4 : 8 < n
              · have f4 : decide ((8 : Int) < (n : Int)) = true := decide_eq_true (by omega)
                have hv0 : v = false := by rw [← hv, decide_eq_false (show ¬ n ≤ 8 by omega)]; simp
                subst hv0; clear hv hb0 hb1 hb2 hb3 hb4; go_enter Tryz.func110, Tryz.ntmps110; go_wp2_with fail
                refine (refSplit_val p N 0 m _ HS.out HSX.out HM.out).mono ?_
                rintro e w1 ⟨a1, b1, cap1, rfl, hS1, c1⟩; have B1 : Hid (Below w.heap.size w w1) := bel_tr (bel_al _ _) c1
                have y0 := bel_cell c1 (World.cell?_alloc_new w _ _ 0)
                have y1 := bel_cell c1 (World.cell?_alloc_new w _ _ 1)
                have y2 := bel_cell c1 (World.cell?_alloc_new w _ _ 2)
                have y3 := bel_cell c1 (World.cell?_alloc_new w _ _ 3)
                have y4 := bel_cell c1 (World.cell?_alloc_new w _ _ 4)
                clear hS1 c1; go_wp2; go_ret; exact ⟨rfl, B1.out⟩
              · have f4 : decide ((8 : Int) < (n : Int)) = false := decide_eq_false (by omega)
                have hvb : bs.all blkB = v := by
                  rw [← hv, decide_eq_false hb0, decide_eq_true (show q = -1 by simpa using hb1), decide_eq_true (show -1 ≤ wr by omega), decide_eq_true (show wr ≤ 3 by omega), decide_eq_true (show n ≤ 8 by omega)]
                  simp
                have HV : Hid _ := hvb
                have hn8 : n ≤ 8 := by omega
                clear hv hvb hb0 hb1 hb2 hb3 hb4; go_enter Tryz.func110, Tryz.ntmps110; go_wp2_with fail
                refine (refSplit_val p N 0 m _ HS.out HSX.out HM.out).mono ?_
                rintro e w1 ⟨a1, b1, cap1, rfl, hS1, c1⟩; have B1 : Hid (Below w.heap.size w w1) := bel_tr (bel_al _ _) c1
                have y0 := bel_cell c1 (World.cell?_alloc_new w _ _ 0)
                have y1 := bel_cell c1 (World.cell?_alloc_new w _ _ 1)
                have y2 := bel_cell c1 (World.cell?_alloc_new w _ _ 2)
                have y3 := bel_cell c1 (World.cell?_alloc_new w _ _ 3)
                have y4 := bel_cell c1 (World.cell?_alloc_new w _ _ 4)
                clear hS1 c1; go_wp2; have HY3 : Hid _ := y3
                clear y0 y1 y2 y3 y4; go_loopw [5, 6] (fun v5 _ wr => ∃ i : Nat, i ≤ n ∧ v5 = .int .i64 i ∧ Below w1.heap.size w1 wr ∧ (bs.take i).all blkB = true) (fun v5 _ _ => n - (intOf v5).toNat)
                case atStart => exact ⟨0, by omega, rfl, Below.refl _ _, by simp⟩
                case round =>
                  obtain ⟨i, hi, rfl, hb, hall⟩ := hrel
                  have HB : Hid (Below w1.heap.size w1 wr) := hb
                  have y3 := bel_cell hb HY3.out
                  have y3a := cell_al y3
                  have HA : Hid _ := hall
                  by_cases hlt : i < n
                  · obtain ⟨b, off, ha, hcell⟩ := (HX.out.below (bel_tr B1.out hb)).bs.cells (by show 0 < n; omega)
                    simp only at ha
                    subst ha; have hib : i < bs.length := by rw [HN.out]; exact hlt
                    have hc := hcell i hib
                    have HE : Hid (blkB bs[i] = true → (bs.take (i + 1)).all blkB = true) := fun h => all_take blkB bs i hib hall h
                    have HF : Hid (blkB bs[i] = false → bs.all blkB = false) := fun h => List.all_eq_false.2 ⟨bs[i], List.getElem_mem hib, by rw [h]; simp⟩
                    obtain ⟨bi, hbi⟩ : ∃ bi, bs[i] = bi := ⟨_, rfl⟩
                    simp only [hbi] at hc HE HF
                    obtain ⟨f1, f2, f3⟩ := bi
                    have c0 : wr.cell? ⟨b, off + i * 3, none⟩ = some (.int .i64 f1) := hc 0 _ rfl
                    have c1 : wr.cell? ⟨b, off + i * 3 + 1, none⟩ = some (.int .i64 f2) := hc 1 _ rfl
                    have c2 : wr.cell? ⟨b, off + i * 3 + 2, none⟩ = some (.int .i64 f3) := hc 2 _ rfl
                    have HL : Hid (blkB ⟨f1, f2, f3⟩ = ((decide (1 ≤ f1) && decide (f1 ≤ 9007199254740991)) && (decide (1 ≤ f2) && decide (f2 ≤ 9007199254740991)) && (decide (0 ≤ f3) && decide (f3 ≤ 64)))) := rfl
                    clear hb hall hcell hc hbi hib; by_cases ht0 : f1 < 1
                    · have g0 : decide (f1 < 1) = true := decide_eq_true ht0
                      have hv0 : v = false := by rw [← HV.out]; exact HF.out (by rw [HL.out, decide_eq_false (show ¬ 1 ≤ f1 by omega)]; simp)
                      subst hv0; clear ht0; go_wp2; go_ret; exact ⟨rfl, bel_tr B1.out (bel_tr HB.out (bel_al _ _))⟩
                    · have g0 : decide (f1 < 1) = false := decide_eq_false ht0
                      by_cases ht1 : 9007199254740991 < f1
                      · have g1 : decide (9007199254740991 < f1) = true := decide_eq_true ht1
                        have hv0 : v = false := by rw [← HV.out]; exact HF.out (by rw [HL.out, decide_eq_false (show ¬ f1 ≤ 9007199254740991 by omega)]; simp)
                        subst hv0; clear ht0 ht1; go_wp2; go_ret; exact ⟨rfl, bel_tr B1.out (bel_tr HB.out (bel_al _ _))⟩
                      · have g1 : decide (9007199254740991 < f1) = false := decide_eq_false ht1
                        by_cases ht2 : f2 < 1
                        · have g2 : decide (f2 < 1) = true := decide_eq_true ht2
                          have hv0 : v = false := by rw [← HV.out]; exact HF.out (by rw [HL.out, decide_eq_false (show ¬ 1 ≤ f2 by omega)]; simp)
                          subst hv0; clear ht0 ht1 ht2; go_wp2; go_ret; exact ⟨rfl, bel_tr B1.out (bel_tr HB.out (bel_al _ _))⟩
                        · have g2 : decide (f2 < 1) = false := decide_eq_false ht2
                          by_cases ht3 : 9007199254740991 < f2
                          · have g3 : decide (9007199254740991 < f2) = true := decide_eq_true ht3
                            have hv0 : v = false := by rw [← HV.out]; exact HF.out (by rw [HL.out, decide_eq_false (show ¬ f2 ≤ 9007199254740991 by omega)]; simp)
                            subst hv0; clear ht0 ht1 ht2 ht3; go_wp2; go_ret; exact ⟨rfl, bel_tr B1.out (bel_tr HB.out (bel_al _ _))⟩
                          · have g3 : decide (9007199254740991 < f2) = false := decide_eq_false ht3
                            by_cases ht4 : f3 < 0
                            · have g4 : decide (f3 < 0) = true := decide_eq_true ht4
                              have hv0 : v = false := by rw [← HV.out]; exact HF.out (by rw [HL.out, decide_eq_false (show ¬ 0 ≤ f3 by omega)]; simp)
                              subst hv0; clear ht0 ht1 ht2 ht3 ht4; go_wp2; go_ret; exact ⟨rfl, bel_tr B1.out (bel_tr HB.out (bel_al _ _))⟩
                            · have g4 : decide (f3 < 0) = false := decide_eq_false ht4
                              by_cases ht5 : 64 < f3
                              · have g5 : decide (64 < f3) = true := decide_eq_true ht5
                                have hv0 : v = false := by rw [← HV.out]; exact HF.out (by rw [HL.out, decide_eq_false (show ¬ f3 ≤ 64 by omega)]; simp)
                                subst hv0; clear ht0 ht1 ht2 ht3 ht4 ht5; go_wp2; go_ret; exact ⟨rfl, bel_tr B1.out (bel_tr HB.out (bel_al _ _))⟩
                              · have g5 : decide (64 < f3) = false := decide_eq_false ht5
                                have HR : Hid ((bs.take (i + 1)).all blkB = true) := HE.out (by rw [HL.out, decide_eq_true (show 1 ≤ f1 by omega), decide_eq_true (show f1 ≤ 9007199254740991 by omega), decide_eq_true (show 1 ≤ f2 by omega), decide_eq_true (show f2 ≤ 9007199254740991 by omega), decide_eq_true (show 0 ≤ f3 by omega), decide_eq_true (show f3 ≤ 64 by omega)]; rfl)
                                clear ht0 ht1 ht2 ht3 ht4 ht5; go_wp2; go_roundw
                                case rel => exact ⟨i + 1, by omega, by go_num, bel_tr HB.out (bel_al _ _), HR.out⟩
                                case measure => simp [intOf]; omega
                  · obtain rfl : i = n := by omega
                    have hgd : decide ((i : Int) < (i : Int)) = false := decide_eq_false (by omega)
                    have hA := HA.out
                    rw [List.take_of_length_le (by rw [HN.out]; omega), HV.out] at hA
                    subst hA; clear hb hall hlt; go_wp2; go_ret; exact ⟨rfl, bel_tr B1.out HB.out⟩
  · have hpb : pathB p = false := by unfold pathB; exact decide_eq_false hE
    have hv0 : v = false := by rw [← hv, hpb]; rfl
    have hEb : (splitE p != 0) = true := by simpa using hE
    subst hv0; clear hv hpb hE; generalize splitN p = N at *
    generalize splitE p = E at *
    go_enter Tryz.func110, Tryz.ntmps110; go_wp2_with fail
    refine (refSplit_val p N E m _ HS.out HSX.out HM.out).mono ?_
    rintro e w1 ⟨a1, b1, cap1, rfl, hS1, c1⟩; have B1 : Hid (Below w.heap.size w w1) := bel_tr (bel_al _ _) c1
    clear hS1 c1; go_wp2; go_ret; exact ⟨rfl, B1.out⟩
theorem refFind_val {a : Option Addr} {n c : Nat} {xs : NS} {w : World} (h : NL w a n xs) (p : ByteArray) (I : Int) (hI : findI xs p = I) :
    Calls Tryz.prog 112 #[.slice a n c, .string p] w fun e w' => e = .returned (.int .i64 I) ∧ Below w.heap.size w w' := by
  have hlid := h.lid
  unfold maxLen at hlid; obtain ⟨b, off, ps, k1, k2, k3⟩ := h.ex
  have HK : Hid (Nds w a b off ps) := k3
  have HP : Hid (ps.length = n) := by show ps.length = n; rw [← k2, ← k1, List.length_map]
  have HMP : Hid (ps.map (·.1) = xs) := k1
  have HI : Hid _ := hI
  clear h k1 k2 k3 hI; go_enter Tryz.func112, Tryz.ntmps112; go_wp2; go_loopw [5] (fun v5 wr => ∃ i : Nat, i ≤ n ∧ v5 = .int .i64 i ∧ Below w.heap.size w wr ∧ ∀ j (hj : j < ps.length), j < i → ps[j].1.path ≠ p) (fun v5 _ => n - (intOf v5).toNat)
  case atStart => exact ⟨0, by omega, rfl, Below.refl _ _, fun j hj hj0 => by omega⟩
  case round =>
    obtain ⟨i, hi, rfl, hb, hall⟩ := hrel
    have HB : Hid _ := hb
    have HA : Hid (∀ j (hj : j < ps.length), j < i → ps[j].1.path ≠ p) := hall
    by_cases hlt : i < n
    · have hi2 : i < ps.length := by rw [HP.out]; exact hlt
      obtain ⟨e0, _⟩ := (HK.out.below hb).at hi2
      obtain rfl := (HK.out.below hb).addr (by omega)
      have HX : Hid (decide (ps[i].1.path = p) = true → findI xs p = (i : Int)) := fun hp => by
        have : at? (ps.map (·.1)) p = some i := at_is (by simpa using hi2) (by simpa using hp) (fun j hj => by
          have := hall j (by omega) hj
          simpa using this)
        rw [HMP.out] at this
        unfold findI; rw [this]
      have HY : Hid (decide (ps[i].1.path = p) = false → ∀ j (hj : j < ps.length), j < i + 1 → ps[j].1.path ≠ p) := fun hp j hj hji => by
        rcases Nat.lt_or_ge j i with h | h
        · exact hall j hj h
        · obtain rfl : j = i := by omega
          simpa using hp
      have se := same_eq ps[i].1.path p
      clear hb hall; generalize ps[i].1.path = q at *
      cases hv : decide (q = p) with
      | true =>
        rw [hv] at se
        have hII : I = (i : Int) := by rw [← HI.out]; exact HX.out hv
        subst hII; clear hv; go_wp2; go_ret; exact ⟨rfl, HB.out⟩
      | false =>
        rw [hv] at se
        have HV : Hid _ := hv
        clear hv; go_wp2; go_roundw
        case rel => exact ⟨i + 1, by omega, by go_num, HB.out, HY.out HV.out⟩
        case measure => simp [intOf]; omega
    · obtain rfl : i = n := by omega
      have hgd : decide ((i : Int) < (i : Int)) = false := decide_eq_false (by omega)
      have hII : I = -1 := by
        have : at? (ps.map (·.1)) p = none := at_no (fun x hx => by
          obtain ⟨y, hy, rfl⟩ := List.mem_map.1 hx
          obtain ⟨j, hj, rfl⟩ := List.getElem_of_mem hy
          exact hall j hj (by have := HP.out; omega))
        rw [HMP.out] at this
        rw [← HI.out]; unfold findI; rw [this]
      subst hII; clear hb hall hlt; go_wp2; go_ret; exact ⟨rfl, HB.out⟩
end Go.Proofs.YtcnflkjkgomnoaaGreat
