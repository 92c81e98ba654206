/- The contract of ref12.read. -/
import Derived.Test.YtigomhilcnnjdaaGreatCImageRm
import Derived.BigRegion
namespace Go.Proofs.YtigomhilcnnjdaaGreat.Img
open Go.RowKit Go.Proofs.YtigomhilcnnjdaaGreat Go.Proofs.YtigomhilcnnjdaaGreat.Smm
open Go.Proofs.YtigomhilcnnjdaaGreat.Spa (Sp RtS zeroS newS spV SpIn SpC put6 put6_at put6_def noS bel_put6)
open Go.Proofs.YtigomhilcnnjdaaGreat.Lea (LS Ls LL LO lsC)
open Go.Proofs.YtigomhilcnnjdaaGreat.Edi (numsB NO Nm bel_tr bel_al bel_cell bel_drew)
open Go.Proofs.YtigomhilcnnjdaaGreat.Wir (app_assoc app_size app_list size_list takeT)
open Go.WideShapes (bytes_inj)
set_option linter.unusedVariables false
set_option maxRecDepth 100000 in
set_option maxHeartbeats 4000000 in
theorem refRead_some {b n c : Nat} {p : ByteArray} {qs : List ByteArray} {w : World} (h : Strs w (some ⟨b, 0, none⟩) b 0 (p :: qs)) (hn : qs.length = n) (hc : n ≤ c) (hcm : 1 + c ≤ maxLen) (hk : n ≤ 900000000) (hS : Small (p :: qs)) :
    Calls Tryz.prog 14 #[.slice (some ⟨b, 0, none⟩) (1 + n) (1 + c)] w fun e w' => RRead w.heap.size (p :: qs) e w' ∧ Below w.heap.size w w' := by
  have hx : 1 + c ≤ 9223372036854775807 := by unfold maxLen at hcm; omega
  have HQL : Hid (qs.length = n) := hn
  have HSM : Hid (Small (p :: qs)) := hS
  have c0 : w.cell? ⟨b, 0, none⟩ = some (.string p) := h.cell 0 (by simp)
  have hst2 : ∀ (w : World) (a : Addr) (x : Option Addr) (n c : Nat) (m : Mode), (store a (.slice x n c) m).run Tryz.prog w = stored Tryz.prog w a (.slice x n c) m := fun w a x n c m => run_store_any w a _ m rfl
  have HPS : Hid (p.size ≤ 4000) := hS p (List.mem_cons_self ..)
  have R0 : Hid (SpC (w.alloc (.cells #[.int .i64 0, .int .i64 0, .int .i64 0, .int .i64 0, .slice none 0 0, .slice none 0 0] 26)) w.heap.size zeroS noS noS) := SpC.new w 26 zeroS noS noS
  have B0 : Hid (Below w.heap.size w (w.alloc (.cells #[.int .i64 0, .int .i64 0, .int .i64 0, .int .i64 0, .slice none 0 0, .slice none 0 0] 26))) := bel_al _ _
  have S0 : Hid (Strs w (some ⟨b, 0, none⟩) b 0 (p :: qs)) := h
  have hR0 : w.heap.size < (w.alloc (.cells #[.int .i64 0, .int .i64 0, .int .i64 0, .int .i64 0, .slice none 0 0, .slice none 0 0] 26)).heap.size := by simp
  have c0a := cell_al c0 (o := .cells #[.int .i64 0, .int .i64 0, .int .i64 0, .int .i64 0, .slice none 0 0, .slice none 0 0] 26)
  clear h hn hS c0
  go_enter Tryz.func14, Tryz.ntmps14
  go_upto_region 1 with fail
  generalize w.alloc (.cells #[.int .i64 0, .int .i64 0, .int .i64 0, .int .i64 0, .slice none 0 0, .slice none 0 0] 26) = W0 at *
  by_cases h0 : p.size = 0
  · have HP : Hid _ := refuse_box R0.out B0.out (ps := p :: qs) (fun t _ e => (head_tail (head_first e).1).1 h0)
    rw [put6_def] at HP
    unfold noS zeroS spV at HP
    simp only at HP
    obtain ⟨r0, r1, r2, r3, r4, r5, rf⟩ := R0.out
    simp only [zeroS, noS] at r0 r1 r2 r3 r4 r5
    go_wp2
    obtain ⟨q0, q1, q2, q3, q4, q5, _⟩ := HP.out.1
    refine bodyPost_ret (v := .tuple #[.agg #[.int .i64 0, .int .i64 0, .int .i64 0, .int .i64 0, .slice none 0 0, .slice none 0 0], .bool false]) ?_ rfl ⟨HP.out.2.1, HP.out.2.2⟩
    simp only [results, Tryz.results14]
    simp [go_sem, q0, q1, q2, q3, q4, q5]
  have hpos : 0 < p.size := by omega
  by_cases h84 : (p[0]'hpos).toNat = 84
  · have hb84 : (((p[0]'hpos).toNat : Int) != 84) = false := by rw [h84]; rfl
    have hT4 : (p.extract 1 p.size).size ≤ 4000 := by rw [ByteArray.size_extract]; have := HPS.out; omega
    have CN : Hid (∀ W, Calls Tryz.prog 36 #[.string (p.extract 1 p.size)] W fun e w' => (∃ a n c zs g v, e = .returned (.tuple #[.slice a n c, .bool v]) ∧ NO W.heap.size w' a n c zs g ∧ NumOf (p.extract 1 p.size) zs v) ∧ Below W.heap.size W w') := fun W => refNumbers_val _ W hT4
    have hn0 : ((1 + (n : Int)) == 0) = false := by rw [beq_eq_false_iff_ne]; omega
    have hs0 : ((p.size : Int) == 0) = false := by rw [beq_eq_false_iff_ne]; omega
    clear hT4
    go_upto_region 3 with fail
    clear hb84 hn0 hs0 h84
    go_wp2_with fail
    refine (CN.out _).mono ?_
    rintro e w1 ⟨⟨ha, hm, hc6, zs, g, v, rfl, hO, hN⟩, b1⟩
    have R1 : Hid (SpC w1 w.heap.size zeroS noS noS) := R0.out.below b1
    have B1 : Hid (Below w.heap.size w w1) := bel_tr B0.out b1
    have HR1 : w.heap.size < W0.heap.size := hR0
    have HO : Hid (NO W0.heap.size w1 ha hm hc6 zs g) := hO
    have HN : Hid (NumOf (p.extract 1 p.size) zs v) := hN
    have hW1 := b1.size
    clear b1 hO hN CN R0 B0 c0a hR0
    go_upto_region 4 with fail
    cases v with
    | false =>
      go_quiet (fail)
      have BQ : Hid (Below w1.heap.size w1 (w1.drewN nq)) := bel_drewN _ _
      have RQ : Hid (SpC (w1.drewN nq) w.heap.size zeroS noS noS) := R1.out.below BQ.out
      have BB : Hid (Below w.heap.size w (w1.drewN nq)) := bel_tr B1.out BQ.out
      generalize w1.drewN nq = W1 at *
      have HP : Hid _ := refuse_box RQ.out BB.out (ps := p :: qs) (first_no HN.out HQL.out hk (.inl rfl))
      rw [put6_def] at HP
      unfold noS zeroS spV at HP
      simp only at HP
      obtain ⟨r0, r1, r2, r3, r4, r5, rf⟩ := RQ.out
      simp only [zeroS, noS] at r0 r1 r2 r3 r4 r5
      go_wp2
      obtain ⟨q0, q1, q2, q3, q4, q5, _⟩ := HP.out.1
      refine bodyPost_ret (v := .tuple #[.agg #[.int .i64 0, .int .i64 0, .int .i64 0, .int .i64 0, .slice none 0 0, .slice none 0 0], .bool false]) ?_ rfl ⟨HP.out.2.1, HP.out.2.2⟩
      simp only [results, Tryz.results14]
      simp [go_sem, q0, q1, q2, q3, q4, q5]
    | true =>
      have hml := HO.out.len
      by_cases h6 : hm = 6
      · subst h6
        obtain ⟨Hb, z0, z1, z2, z3, z4, z5, rfl, rfl, hb1, hb2, e0, e1, e2, e3, e4, e5⟩ := six_cells HO.out
        have HF : Hid (I64 z4 ∧ I64 z5) := ⟨HN.out.fit z4 (by simp), HN.out.fit z5 (by simp)⟩
        have hk4 : ((6 : Int) != 6) = false := by decide
        clear hml HO
        by_cases h4 : z4 < 0
        · have hb4 : decide (z4 < 0) = true := decide_eq_true h4
          go_quiet (fail)
          have BQ : Hid (Below w1.heap.size w1 (w1.drewN nq)) := bel_drewN _ _
          have RQ : Hid (SpC (w1.drewN nq) w.heap.size zeroS noS noS) := R1.out.below BQ.out
          have BB : Hid (Below w.heap.size w (w1.drewN nq)) := bel_tr B1.out BQ.out
          generalize w1.drewN nq = W1 at *
          have HP : Hid _ := refuse_box RQ.out BB.out (ps := p :: qs) (first_no HN.out HQL.out hk (.inr (.inr (.inl ⟨z4, rfl, h4⟩))))
          rw [put6_def] at HP
          unfold noS zeroS spV at HP
          simp only at HP
          obtain ⟨r0, r1, r2, r3, r4, r5, rf⟩ := RQ.out
          simp only [zeroS, noS] at r0 r1 r2 r3 r4 r5
          go_wp2
          obtain ⟨q0, q1, q2, q3, q4, q5, _⟩ := HP.out.1
          refine bodyPost_ret (v := .tuple #[.agg #[.int .i64 0, .int .i64 0, .int .i64 0, .int .i64 0, .slice none 0 0, .slice none 0 0], .bool false]) ?_ rfl ⟨HP.out.2.1, HP.out.2.2⟩
          simp only [results, Tryz.results14]
          simp [go_sem, q0, q1, q2, q3, q4, q5]
        have hb4 : decide (z4 < 0) = false := decide_eq_false h4
        by_cases h5 : z5 < 0
        · have hb5 : decide (z5 < 0) = true := decide_eq_true h5
          go_quiet (fail)
          have BQ : Hid (Below w1.heap.size w1 (w1.drewN nq)) := bel_drewN _ _
          have RQ : Hid (SpC (w1.drewN nq) w.heap.size zeroS noS noS) := R1.out.below BQ.out
          have BB : Hid (Below w.heap.size w (w1.drewN nq)) := bel_tr B1.out BQ.out
          generalize w1.drewN nq = W1 at *
          have HP : Hid _ := refuse_box RQ.out BB.out (ps := p :: qs) (first_no HN.out HQL.out hk (.inr (.inr (.inr (.inl ⟨z5, rfl, h5⟩)))))
          rw [put6_def] at HP
          unfold noS zeroS spV at HP
          simp only at HP
          obtain ⟨r0, r1, r2, r3, r4, r5, rf⟩ := RQ.out
          simp only [zeroS, noS] at r0 r1 r2 r3 r4 r5
          go_wp2
          obtain ⟨q0, q1, q2, q3, q4, q5, _⟩ := HP.out.1
          refine bodyPost_ret (v := .tuple #[.agg #[.int .i64 0, .int .i64 0, .int .i64 0, .int .i64 0, .slice none 0 0, .slice none 0 0], .bool false]) ?_ rfl ⟨HP.out.2.1, HP.out.2.2⟩
          simp only [results, Tryz.results14]
          simp [go_sem, q0, q1, q2, q3, q4, q5]
        have hb5 : decide (z5 < 0) = false := decide_eq_false h5
        by_cases hsum : z4 + z5 = (n : Int)
        · have hw : wrap64 (z4 + z5) = (n : Int) := by rw [hsum]; unfold wrap64; omega
          have hw2 : IntKind.i64.wrap (z4 + z5) = (n : Int) := by rw [hsum]; simp [IntKind.wrap, IntKind.bits, IntKind.signed] <;> omega
          obtain ⟨k, rfl⟩ : ∃ k : Nat, z4 = (k : Int) := ⟨z4.toNat, by omega⟩
          obtain ⟨d, rfl⟩ : ∃ d : Nat, z5 = (d : Int) := ⟨z5.toNat, by omega⟩
          have hkd : k + d = n := by omega
          have HSUM : Hid (k + d = n) := hkd
          clear hkd hsum h4 h5 HF
          go_quiet (fail)
          have BQ : Hid (Below w1.heap.size w1 (w1.drewN nq)) := bel_drewN _ _
          have RQ : Hid (SpC (w1.drewN nq) w.heap.size zeroS noS noS) := R1.out.below BQ.out
          have BB : Hid (Below w.heap.size w (w1.drewN nq)) := bel_tr B1.out BQ.out
          have hsz : w1.heap.size ≤ (w1.drewN nq).heap.size := BQ.out.size
          have f0 := bel_cell BQ.out e0
          have f1 := bel_cell BQ.out e1
          have f2 := bel_cell BQ.out e2
          have f3 := bel_cell BQ.out e3
          have f4 := bel_cell BQ.out e4
          clear BQ e0 e1 e2 e3 e4 e5 hb4 hb5 hw hw2 hk4 R1 B1
          generalize w1.drewN nq = W1 at *
          have f0a := fun o => bel_cell (bel_al W1 o) f0
          have f1a := fun o => bel_cell (bel_al W1 o) f1
          have f2a := fun o => bel_cell (bel_al W1 o) f2
          have f3a := fun o => bel_cell (bel_al W1 o) f3
          clear hpos h0
          go_upto_region 6 with fail
          go_region
          have RD0 : Hid (Rd w W1.heap.size Hb (W1.alloc (.cells #[.int .i64 z0, .int .i64 z1, .int .i64 z2, .int .i64 z3, .slice none 0 0, .slice none 0 0] 26)).drew z0 z1 z2 z3 k [] [] noS noS) := rd_new RQ.out BB.out (by omega) f4 _
          have SO0 : Hid (Sofar p qs z0 z1 z2 z3 k 0 [] []) := Sofar.start HN.out
          have hkn : k ≤ n := by have := HSUM.out; omega
          clear f0 f1 f2 f3 f4 f0a f1a f2a f3a RQ BB hsz hb2
          generalize (W1.alloc (.cells #[.int .i64 z0, .int .i64 z1, .int .i64 z2, .int .i64 z3, .slice none 0 0, .slice none 0 0] 26)).drew = W2 at *
          generalize W1.heap.size = Q at *
          go_wp2
          refine rd_loop w b n c Hb hc6 Q k p qs z0 z1 z2 z3 _ _ _ _ _ _ _ _ _ _ _ _ _ _ _ _ _ _ _ _ _ _ _ _ _ _ _ _ _ _ _ _ _ _ _ _ _ _ _ _ _ _ _ _ _ _ _ _ _ _ _ _ _ _ _ _ _ _ _ _ _ _ _ _ _ _ _ _ _ _ _ _ _ _ _ _ _ _ _ _ _ _ _ _ _ _ _ _ _ _ _ _ _ _ _ _ _ _ _ _ _ _ _ _ _ _ _ _ _ _ _ _ _ _ _ _ _ _ _ _ _ _ _ _ _ _ _ _ _ _ _ _ _ _ _ _ _ _ _ _ _ _ _ _ _ _ _ _ _ _ _ _ _ _ _ _ _ _ _ _ _ _ _ _ _ _ _ _ _ _ _ _ _ _ _ _ _ _ _ _ _ _ _ _ _ _ _ _ _ _ _ _ _ _ _ _ _ _ _ _ _ _ _ _ _ _ _ _ _ _ _ _ _ _ _ _ _ _ _ _ _ _ _ W2 ?_ hk hx hc HQL HSM S0 ⟨1, noS, noS, [], [], by omega, by omega, rfl, RD0.out, SO0.out, by show 0 ≤ 1; omega, by show 0 ≤ 1; omega, fun _ => ⟨rfl, rfl⟩⟩
          intro a' wr hX
          unfold RdWX at hX
          obtain ⟨u3, hX⟩ := hX
          obtain ⟨u7, hX⟩ := hX
          obtain ⟨u8, hX⟩ := hX
          obtain ⟨u9, hX⟩ := hX
          obtain ⟨u10, hX⟩ := hX
          obtain ⟨u11, hX⟩ := hX
          obtain ⟨u12, hX⟩ := hX
          obtain ⟨u13, hX⟩ := hX
          obtain ⟨u14, hX⟩ := hX
          obtain ⟨u15, hX⟩ := hX
          obtain ⟨u16, hX⟩ := hX
          obtain ⟨u89, hX⟩ := hX
          obtain ⟨u90, hX⟩ := hX
          obtain ⟨u91, hX⟩ := hX
          obtain ⟨u92, hX⟩ := hX
          obtain ⟨u93, hX⟩ := hX
          obtain ⟨u94, hX⟩ := hX
          obtain ⟨u95, hX⟩ := hX
          obtain ⟨u96, hX⟩ := hX
          obtain ⟨u97, hX⟩ := hX
          obtain ⟨u98, hX⟩ := hX
          obtain ⟨u99, hX⟩ := hX
          obtain ⟨u100, hX⟩ := hX
          obtain ⟨u101, hX⟩ := hX
          obtain ⟨u102, hX⟩ := hX
          obtain ⟨u103, hX⟩ := hX
          obtain ⟨u104, hX⟩ := hX
          obtain ⟨u105, hX⟩ := hX
          obtain ⟨u106, hX⟩ := hX
          obtain ⟨u107, hX⟩ := hX
          obtain ⟨u108, hX⟩ := hX
          obtain ⟨u109, hX⟩ := hX
          obtain ⟨u110, hX⟩ := hX
          obtain ⟨u111, hX⟩ := hX
          obtain ⟨u112, hX⟩ := hX
          obtain ⟨u113, hX⟩ := hX
          obtain ⟨u114, hX⟩ := hX
          obtain ⟨u115, hX⟩ := hX
          obtain ⟨u116, hX⟩ := hX
          obtain ⟨u117, hX⟩ := hX
          obtain ⟨u118, hX⟩ := hX
          obtain ⟨u119, hX⟩ := hX
          obtain ⟨u120, hX⟩ := hX
          obtain ⟨u121, hX⟩ := hX
          obtain ⟨u122, hX⟩ := hX
          obtain ⟨u123, hX⟩ := hX
          obtain ⟨u124, hX⟩ := hX
          obtain ⟨u125, hX⟩ := hX
          obtain ⟨u126, hX⟩ := hX
          obtain ⟨u127, hX⟩ := hX
          obtain ⟨u128, hX⟩ := hX
          obtain ⟨u129, hX⟩ := hX
          obtain ⟨u130, hX⟩ := hX
          obtain ⟨u131, hX⟩ := hX
          obtain ⟨u132, hX⟩ := hX
          obtain ⟨u133, hX⟩ := hX
          obtain ⟨u134, hX⟩ := hX
          obtain ⟨u135, hX⟩ := hX
          obtain ⟨u136, hX⟩ := hX
          obtain ⟨u137, hX⟩ := hX
          obtain ⟨u138, hX⟩ := hX
          obtain ⟨u139, hX⟩ := hX
          obtain ⟨u140, hX⟩ := hX
          obtain ⟨u141, hX⟩ := hX
          obtain ⟨u142, hX⟩ := hX
          obtain ⟨u143, hX⟩ := hX
          obtain ⟨u144, hX⟩ := hX
          obtain ⟨u145, hX⟩ := hX
          obtain ⟨u146, hX⟩ := hX
          obtain ⟨u147, hX⟩ := hX
          obtain ⟨u148, hX⟩ := hX
          obtain ⟨u149, hX⟩ := hX
          obtain ⟨u150, hX⟩ := hX
          obtain ⟨u151, hX⟩ := hX
          obtain ⟨u152, hX⟩ := hX
          obtain ⟨u153, hX⟩ := hX
          obtain ⟨u154, hX⟩ := hX
          obtain ⟨u155, hX⟩ := hX
          obtain ⟨u156, hX⟩ := hX
          obtain ⟨u157, hX⟩ := hX
          obtain ⟨u158, hX⟩ := hX
          obtain ⟨u159, hX⟩ := hX
          obtain ⟨u160, hX⟩ := hX
          obtain ⟨u161, hX⟩ := hX
          obtain ⟨u162, hX⟩ := hX
          obtain ⟨u163, hX⟩ := hX
          obtain ⟨u164, hX⟩ := hX
          obtain ⟨u165, hX⟩ := hX
          obtain ⟨u166, hX⟩ := hX
          obtain ⟨u167, hX⟩ := hX
          obtain ⟨u168, hX⟩ := hX
          obtain ⟨u169, hX⟩ := hX
          obtain ⟨u170, hX⟩ := hX
          obtain ⟨u171, hX⟩ := hX
          obtain ⟨u172, hX⟩ := hX
          obtain ⟨u173, hX⟩ := hX
          obtain ⟨u174, hX⟩ := hX
          obtain ⟨u175, hX⟩ := hX
          obtain ⟨u176, hX⟩ := hX
          obtain ⟨u177, hX⟩ := hX
          obtain ⟨u178, hX⟩ := hX
          obtain ⟨u179, hX⟩ := hX
          obtain ⟨u180, hX⟩ := hX
          obtain ⟨u181, hX⟩ := hX
          obtain ⟨u182, hX⟩ := hX
          obtain ⟨u183, hX⟩ := hX
          obtain ⟨u184, hX⟩ := hX
          obtain ⟨u185, hX⟩ := hX
          obtain ⟨u186, hX⟩ := hX
          obtain ⟨u187, hX⟩ := hX
          obtain ⟨u188, hX⟩ := hX
          obtain ⟨u189, hX⟩ := hX
          obtain ⟨u190, hX⟩ := hX
          obtain ⟨u191, hX⟩ := hX
          obtain ⟨u192, hX⟩ := hX
          obtain ⟨u193, hX⟩ := hX
          obtain ⟨u194, hX⟩ := hX
          obtain ⟨u195, hX⟩ := hX
          obtain ⟨u196, hX⟩ := hX
          obtain ⟨u197, hX⟩ := hX
          obtain ⟨u198, hX⟩ := hX
          obtain ⟨u199, hX⟩ := hX
          obtain ⟨u200, hX⟩ := hX
          obtain ⟨u201, hX⟩ := hX
          obtain ⟨u202, hX⟩ := hX
          obtain ⟨u203, hX⟩ := hX
          obtain ⟨u204, hX⟩ := hX
          obtain ⟨u205, hX⟩ := hX
          obtain ⟨u206, hX⟩ := hX
          obtain ⟨u207, hX⟩ := hX
          obtain ⟨u208, hX⟩ := hX
          obtain ⟨u209, hX⟩ := hX
          obtain ⟨u210, hX⟩ := hX
          obtain ⟨u211, hX⟩ := hX
          obtain ⟨u212, hX⟩ := hX
          obtain ⟨u213, hX⟩ := hX
          obtain ⟨u214, hX⟩ := hX
          obtain ⟨u215, hX⟩ := hX
          obtain ⟨u216, hX⟩ := hX
          obtain ⟨u217, hX⟩ := hX
          obtain ⟨u218, hX⟩ := hX
          obtain ⟨u219, hX⟩ := hX
          obtain ⟨u220, hX⟩ := hX
          obtain ⟨u221, hX⟩ := hX
          obtain ⟨u222, hX⟩ := hX
          obtain ⟨u223, hX⟩ := hX
          obtain ⟨u224, hX⟩ := hX
          obtain ⟨⟨N, L, xs, ys, hRd, hSo⟩, rfl⟩ := hX
          have HRD : Hid (Rd w Q Hb wr z0 z1 z2 z3 k xs ys N L) := hRd
          have HSO : Hid (Sofar p qs z0 z1 z2 z3 k n xs ys) := hSo
          clear hRd hSo RD0 SO0
          have HW : Hid (∀ t, FitS t → p :: qs = partsS t → true = true ∧ (⟨z0, z1, z2, z3, xs, ys⟩ : Sp) = t) := HSO.out.whole (by rw [HQL.out]; exact Nat.le_refl _)
          have pR := put6_at HRD.out.r ⟨z0, z1, z2, z3, xs, ys⟩ N L
          have HP : Hid (SpC (put6 wr w.heap.size ⟨z0, z1, z2, z3, xs, ys⟩ N L) w.heap.size ⟨z0, z1, z2, z3, xs, ys⟩ N L ∧ RRead w.heap.size (p :: qs) (.returned (.tuple #[spV ⟨z0, z1, z2, z3, xs, ys⟩ N L, .bool true])) (put6 wr w.heap.size ⟨z0, z1, z2, z3, xs, ys⟩ N L) ∧ Below w.heap.size w (put6 wr w.heap.size ⟨z0, z1, z2, z3, xs, ys⟩ N L)) := ⟨pR.1, ⟨_, N, L, true, rfl, (HRD.out.own.keep pR.2 (fun k hk => by rw [hk]; exact Nat.lt_succ_self _)).mono (Nat.le_succ _), HW.out⟩, bel_put6 HRD.out.bel HRD.out.r (Nat.le_refl _) _ _ _⟩
          obtain ⟨r0, r1, r2, r3, r4, r5, rf⟩ := HRD.out.r
          obtain ⟨y0, y1, y2, y3, y4, y5, yf⟩ := HRD.out.q
          obtain ⟨Na, Nn, Nc⟩ := N
          obtain ⟨La, Ln, Lc⟩ := L
          rw [put6_def] at HP
          unfold spV at HP
          simp only at HP y0 y1 y2 y3 y4 y5
          simp only [zeroS, noS] at r0 r1 r2 r3 r4 r5
          clear pR yf
          go_wp2
          obtain ⟨q0, q1, q2, q3, q4, q5, _⟩ := HP.out.1
          simp only at q0 q1 q2 q3 q4 q5
          (first | rw [Exit.noGoto_ret] | skip)
          refine bodyPost_ret (v := .tuple #[.agg #[.int .i64 z0, .int .i64 z1, .int .i64 z2, .int .i64 z3, .slice Na Nn Nc, .slice La Ln Lc], .bool true]) ?_ rfl ⟨HP.out.2.1, HP.out.2.2⟩
          simp only [results, Tryz.results14]
          simp [go_sem, q0, q1, q2, q3, q4, q5]
        · have hS64 : ∃ S : Int, wrap64 (z4 + z5) = S ∧ IntKind.i64.wrap (z4 + z5) = S ∧ S ≠ (n : Int) := ⟨wrap64 (z4 + z5), rfl, by simp [wrap64, IntKind.wrap, IntKind.bits, IntKind.signed] <;> omega, by obtain ⟨⟨h7, h8⟩, h9, h10⟩ := HF.out; unfold wrap64; omega⟩
          obtain ⟨S, hw, hw2, hSn⟩ := hS64
          have hbS : ((n : Int) != S) = true := by simp only [bne_iff_ne, ne_eq]; omega
          go_quiet (fail)
          have BQ : Hid (Below w1.heap.size w1 (w1.drewN nq)) := bel_drewN _ _
          have RQ : Hid (SpC (w1.drewN nq) w.heap.size zeroS noS noS) := R1.out.below BQ.out
          have BB : Hid (Below w.heap.size w (w1.drewN nq)) := bel_tr B1.out BQ.out
          generalize w1.drewN nq = W1 at *
          have HP : Hid _ := refuse_box RQ.out BB.out (ps := p :: qs) (first_no HN.out HQL.out hk (.inr (.inr (.inr (.inr ⟨z4, z5, rfl, rfl, hsum⟩)))))
          rw [put6_def] at HP
          unfold noS zeroS spV at HP
          simp only at HP
          obtain ⟨r0, r1, r2, r3, r4, r5, rf⟩ := RQ.out
          simp only [zeroS, noS] at r0 r1 r2 r3 r4 r5
          go_wp2
          obtain ⟨q0, q1, q2, q3, q4, q5, _⟩ := HP.out.1
          refine bodyPost_ret (v := .tuple #[.agg #[.int .i64 0, .int .i64 0, .int .i64 0, .int .i64 0, .slice none 0 0, .slice none 0 0], .bool false]) ?_ rfl ⟨HP.out.2.1, HP.out.2.2⟩
          simp only [results, Tryz.results14]
          simp [go_sem, q0, q1, q2, q3, q4, q5]
      · have hb6 : ((hm : Int) != 6) = true := by simp only [bne_iff_ne, ne_eq]; omega
        go_quiet (fail)
        have BQ : Hid (Below w1.heap.size w1 (w1.drewN nq)) := bel_drewN _ _
        have RQ : Hid (SpC (w1.drewN nq) w.heap.size zeroS noS noS) := R1.out.below BQ.out
        have BB : Hid (Below w.heap.size w (w1.drewN nq)) := bel_tr B1.out BQ.out
        generalize w1.drewN nq = W1 at *
        have HP : Hid _ := refuse_box RQ.out BB.out (ps := p :: qs) (first_no HN.out HQL.out hk (.inr (.inl (by rw [hml]; exact h6))))
        rw [put6_def] at HP
        unfold noS zeroS spV at HP
        simp only at HP
        obtain ⟨r0, r1, r2, r3, r4, r5, rf⟩ := RQ.out
        simp only [zeroS, noS] at r0 r1 r2 r3 r4 r5
        go_wp2
        obtain ⟨q0, q1, q2, q3, q4, q5, _⟩ := HP.out.1
        refine bodyPost_ret (v := .tuple #[.agg #[.int .i64 0, .int .i64 0, .int .i64 0, .int .i64 0, .slice none 0 0, .slice none 0 0], .bool false]) ?_ rfl ⟨HP.out.2.1, HP.out.2.2⟩
        simp only [results, Tryz.results14]
        simp [go_sem, q0, q1, q2, q3, q4, q5]
  · have HP : Hid _ := refuse_box R0.out B0.out (ps := p :: qs) (fun t _ e => by
      have h1 := (head_tail (head_first e).1).2.1
      have h2 : p.data.toList[0]'(by rw [size_list]; exact hpos) = p[0] := rfl
      rw [List.head?_eq_getElem?, List.getElem?_eq_getElem (by rw [size_list]; exact hpos), h2] at h1
      simp only [Option.some.injEq] at h1
      rw [h1] at h84
      exact h84 rfl)
    rw [put6_def] at HP
    unfold noS zeroS spV at HP
    simp only at HP
    obtain ⟨r0, r1, r2, r3, r4, r5, rf⟩ := R0.out
    simp only [zeroS, noS] at r0 r1 r2 r3 r4 r5
    have hb84 : (((p[0]'hpos).toNat : Int) != 84) = true := by simp only [bne_iff_ne, ne_eq]; omega
    go_wp2
    obtain ⟨q0, q1, q2, q3, q4, q5, _⟩ := HP.out.1
    refine bodyPost_ret (v := .tuple #[.agg #[.int .i64 0, .int .i64 0, .int .i64 0, .int .i64 0, .slice none 0 0, .slice none 0 0], .bool false]) ?_ rfl ⟨HP.out.2.1, HP.out.2.2⟩
    simp only [results, Tryz.results14]
    simp [go_sem, q0, q1, q2, q3, q4, q5]

end Go.Proofs.YtigomhilcnnjdaaGreat.Img
