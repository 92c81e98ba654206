/- The contract of edit.Right. -/
import Derived.Test.YthogpaojdlfjcaaEditF1
namespace Go.Proofs.Ythogpaojdlfjcaa.Edi
open Go.RowKit Go.Proofs.Ythogpaojdlfjcaa Go.Proofs.Ythogpaojdlfjcaa.Wir

theorem not_rt {e : Ed} {u : Bool} (hu : u = true ↔ Rt e) (h : ¬ Rt e) : u = false := by
  rw [Bool.eq_false_iff]; intro x; exact h (hu.1 x)

set_option maxRecDepth 100000 in
set_option maxHeartbeats 4000000 in
theorem right_val {e : Ed} {a : Option Addr} {m q : Nat} {w : World} (h : Nm w a m e.ls) (u : Bool) (hu : u = true ↔ Rt e) :
    Calls Try.prog 25 #[edV e a m q] w fun x w' => x = .returned (.bool u) ∧ Below w.heap.size w w' := by
  have HN : Hid (e.ls.length = m) := h.len
  have HC : Hid _ := h
  have CA : Hid (∀ W, Below w.heap.size w W → Calls Try.prog 33 #[.slice a m q, .int .i64 0, .int .i64 9007199254740991] W fun x w' => x = .returned (.bool (allB 0 9007199254740991 e.ls)) ∧ w' = W) := fun W hb => allWithin_val (h.below hb) 0 9007199254740991
  have HE : Hid (EdAt (w.alloc (.cells #[.int .i64 e.k, .string e.p, .string e.t, .int .i64 e.c, .int .i64 e.l, .int .i64 e.n, .slice a m q] 32)) w.heap.size e a m q) := EdAt.new w 32 e a m q
  have HU : Hid (¬ Rt e → u = false) := fun hn => not_rt hu hn
  have HY : Hid (Rt e → u = true) := hu.2
  have CL : Hid (∀ W, Calls Try.prog 31 #[.int .i64 e.k] W fun x w' => x = .returned (.agg #[.int .i64 (toM e.k), .int .i64 (loN e.k), .int .i64 (hiN e.k), .int .i64 (lenM e.k)]) ∧ Below W.heap.size W w') := fun W => limits_val e.k W
  obtain ⟨k, p, t, c, l, n, ls⟩ := e
  simp only at HN CA HE CL
  unfold edV
  simp only
  clear h hu
  generalize hto : toM k = TO at *
  generalize hlo : loN k = LO at *
  generalize hhi : hiN k = HI at *
  generalize hlm : lenM k = LM at *
  have GT : Hid (toM k = TO) := hto
  have GL : Hid (loN k = LO) := hlo
  have GH : Hid (hiN k = HI) := hhi
  have GM : Hid (lenM k = LM) := hlm
  clear hto hlo hhi hlm
  cases hb0 : inB 1 k 10 with
  | false =>
    have HV : Hid (u = false) := HU.out (fun r => by have r2 := r.kind; simp only at r2; rw [hb0] at r2; cases r2)
    go_enter Try.func25, Try.ntmps25
    go_wp2_with fail
    refine (CL.out _).mono ?_
    rintro x w1 ⟨rfl, b1⟩
    have hE := HE.out.below b1
    have q0 := cell_al hE.c0
    have q1 := cell_al hE.c1
    have q2 := cell_al hE.c2
    have q3 := cell_al hE.c3
    have q4 := cell_al hE.c4
    have q5 := cell_al hE.c5
    have q6 := cell_al hE.c6
    have B1 : Hid (Below w.heap.size w w1) := bel_tr (bel_al _ _) b1
    clear hE b1 HE CL
    go_wp2_with (first
      | (go_at_call 32; refine (within_val _ _ _ _).mono ?_; rintro x w2 ⟨rfl, hw2⟩; subst hw2)
      | (go_at_call 33; refine (CA.out _ (bel_tr B1.out (bel_al _ _))).mono ?_; rintro x w2 ⟨rfl, hw2⟩; subst hw2))
    go_ret
    exact ⟨congrArg (fun b => Ending.returned (.bool b)) HV.out.symm, bel_tr B1.out (bel_al _ _)⟩
  | true =>
    cases hb1 : decide (p.size ≤ 120) with
    | false =>
      have HV : Hid (u = false) := HU.out (fun r => by have r2 := r.path; simp only at r2; exact (decide_eq_false_iff_not.1 hb1) r2)
      have f1 : decide ((p.size : Int) ≤ 120) = false := by rw [← hb1]; congr 1; apply propext; omega
      clear hb1
      go_enter Try.func25, Try.ntmps25
      go_wp2_with fail
      refine (CL.out _).mono ?_
      rintro x w1 ⟨rfl, b1⟩
      have hE := HE.out.below b1
      have q0 := cell_al hE.c0
      have q1 := cell_al hE.c1
      have q2 := cell_al hE.c2
      have q3 := cell_al hE.c3
      have q4 := cell_al hE.c4
      have q5 := cell_al hE.c5
      have q6 := cell_al hE.c6
      have B1 : Hid (Below w.heap.size w w1) := bel_tr (bel_al _ _) b1
      clear hE b1 HE CL
      go_wp2_with (first
        | (go_at_call 32; refine (within_val _ _ _ _).mono ?_; rintro x w2 ⟨rfl, hw2⟩; subst hw2)
        | (go_at_call 33; refine (CA.out _ (bel_tr B1.out (bel_al _ _))).mono ?_; rintro x w2 ⟨rfl, hw2⟩; subst hw2))
      go_ret
      exact ⟨congrArg (fun b => Ending.returned (.bool b)) HV.out.symm, bel_tr B1.out (bel_al _ _)⟩
    | true =>
      cases hb2 : decide (t.size ≤ TO) with
      | false =>
        have HV : Hid (u = false) := HU.out (fun r => by have r2 := r.to; simp only at r2; rw [GT.out] at r2; exact (decide_eq_false_iff_not.1 hb2) r2)
        have f1 : decide ((p.size : Int) ≤ 120) = true := by rw [← hb1]; congr 1; apply propext; omega
        have f2 : decide ((t.size : Int) ≤ (TO : Int)) = false := by rw [← hb2]; congr 1; apply propext; omega
        clear hb1
        go_enter Try.func25, Try.ntmps25
        go_wp2_with fail
        refine (CL.out _).mono ?_
        rintro x w1 ⟨rfl, b1⟩
        have hE := HE.out.below b1
        have q0 := cell_al hE.c0
        have q1 := cell_al hE.c1
        have q2 := cell_al hE.c2
        have q3 := cell_al hE.c3
        have q4 := cell_al hE.c4
        have q5 := cell_al hE.c5
        have q6 := cell_al hE.c6
        have B1 : Hid (Below w.heap.size w w1) := bel_tr (bel_al _ _) b1
        clear hE b1 HE CL
        go_wp2_with (first
          | (go_at_call 32; refine (within_val _ _ _ _).mono ?_; rintro x w2 ⟨rfl, hw2⟩; subst hw2)
          | (go_at_call 33; refine (CA.out _ (bel_tr B1.out (bel_al _ _))).mono ?_; rintro x w2 ⟨rfl, hw2⟩; subst hw2))
        go_ret
        exact ⟨congrArg (fun b => Ending.returned (.bool b)) HV.out.symm, bel_tr B1.out (bel_al _ _)⟩
      | true =>
        cases hb3 : inB 0 c 3 with
        | false =>
          have HV : Hid (u = false) := HU.out (fun r => by have r2 := r.client; simp only at r2; rw [hb3] at r2; cases r2)
          have f1 : decide ((p.size : Int) ≤ 120) = true := by rw [← hb1]; congr 1; apply propext; omega
          have f2 : decide ((t.size : Int) ≤ (TO : Int)) = true := by rw [← hb2]; congr 1; apply propext; omega
          clear hb1
          go_enter Try.func25, Try.ntmps25
          go_wp2_with fail
          refine (CL.out _).mono ?_
          rintro x w1 ⟨rfl, b1⟩
          have hE := HE.out.below b1
          have q0 := cell_al hE.c0
          have q1 := cell_al hE.c1
          have q2 := cell_al hE.c2
          have q3 := cell_al hE.c3
          have q4 := cell_al hE.c4
          have q5 := cell_al hE.c5
          have q6 := cell_al hE.c6
          have B1 : Hid (Below w.heap.size w w1) := bel_tr (bel_al _ _) b1
          clear hE b1 HE CL
          go_wp2_with (first
            | (go_at_call 32; refine (within_val _ _ _ _).mono ?_; rintro x w2 ⟨rfl, hw2⟩; subst hw2)
            | (go_at_call 33; refine (CA.out _ (bel_tr B1.out (bel_al _ _))).mono ?_; rintro x w2 ⟨rfl, hw2⟩; subst hw2))
          go_ret
          exact ⟨congrArg (fun b => Ending.returned (.bool b)) HV.out.symm, bel_tr B1.out (bel_al _ _)⟩
        | true =>
          cases hb4 : inB 0 l 9007199254740991 with
          | false =>
            have HV : Hid (u = false) := HU.out (fun r => by have r2 := r.call; simp only at r2; rw [hb4] at r2; cases r2)
            have f1 : decide ((p.size : Int) ≤ 120) = true := by rw [← hb1]; congr 1; apply propext; omega
            have f2 : decide ((t.size : Int) ≤ (TO : Int)) = true := by rw [← hb2]; congr 1; apply propext; omega
            clear hb1
            go_enter Try.func25, Try.ntmps25
            go_wp2_with fail
            refine (CL.out _).mono ?_
            rintro x w1 ⟨rfl, b1⟩
            have hE := HE.out.below b1
            have q0 := cell_al hE.c0
            have q1 := cell_al hE.c1
            have q2 := cell_al hE.c2
            have q3 := cell_al hE.c3
            have q4 := cell_al hE.c4
            have q5 := cell_al hE.c5
            have q6 := cell_al hE.c6
            have B1 : Hid (Below w.heap.size w w1) := bel_tr (bel_al _ _) b1
            clear hE b1 HE CL
            go_wp2_with (first
              | (go_at_call 32; refine (within_val _ _ _ _).mono ?_; rintro x w2 ⟨rfl, hw2⟩; subst hw2)
              | (go_at_call 33; refine (CA.out _ (bel_tr B1.out (bel_al _ _))).mono ?_; rintro x w2 ⟨rfl, hw2⟩; subst hw2))
            go_ret
            exact ⟨congrArg (fun b => Ending.returned (.bool b)) HV.out.symm, bel_tr B1.out (bel_al _ _)⟩
          | true =>
            cases hb5 : inB LO n HI with
            | false =>
              have HV : Hid (u = false) := HU.out (fun r => by have r2 := r.num; simp only at r2; rw [GL.out, GH.out, hb5] at r2; cases r2)
              have f1 : decide ((p.size : Int) ≤ 120) = true := by rw [← hb1]; congr 1; apply propext; omega
              have f2 : decide ((t.size : Int) ≤ (TO : Int)) = true := by rw [← hb2]; congr 1; apply propext; omega
              clear hb1
              go_enter Try.func25, Try.ntmps25
              go_wp2_with fail
              refine (CL.out _).mono ?_
              rintro x w1 ⟨rfl, b1⟩
              have hE := HE.out.below b1
              have q0 := cell_al hE.c0
              have q1 := cell_al hE.c1
              have q2 := cell_al hE.c2
              have q3 := cell_al hE.c3
              have q4 := cell_al hE.c4
              have q5 := cell_al hE.c5
              have q6 := cell_al hE.c6
              have B1 : Hid (Below w.heap.size w w1) := bel_tr (bel_al _ _) b1
              clear hE b1 HE CL
              go_wp2_with (first
                | (go_at_call 32; refine (within_val _ _ _ _).mono ?_; rintro x w2 ⟨rfl, hw2⟩; subst hw2)
                | (go_at_call 33; refine (CA.out _ (bel_tr B1.out (bel_al _ _))).mono ?_; rintro x w2 ⟨rfl, hw2⟩; subst hw2))
              go_ret
              exact ⟨congrArg (fun b => Ending.returned (.bool b)) HV.out.symm, bel_tr B1.out (bel_al _ _)⟩
            | true =>
              cases hb6 : decide (m ≤ LM) with
              | false =>
                have HV : Hid (u = false) := HU.out (fun r => by have r2 := r.few; simp only at r2; rw [GM.out, HN.out] at r2; exact (decide_eq_false_iff_not.1 hb6) r2)
                have f1 : decide ((p.size : Int) ≤ 120) = true := by rw [← hb1]; congr 1; apply propext; omega
                have f2 : decide ((t.size : Int) ≤ (TO : Int)) = true := by rw [← hb2]; congr 1; apply propext; omega
                have f6 : decide ((m : Int) ≤ (LM : Int)) = false := by rw [← hb6]; congr 1; apply propext; omega
                clear hb1
                go_enter Try.func25, Try.ntmps25
                go_wp2_with fail
                refine (CL.out _).mono ?_
                rintro x w1 ⟨rfl, b1⟩
                have hE := HE.out.below b1
                have q0 := cell_al hE.c0
                have q1 := cell_al hE.c1
                have q2 := cell_al hE.c2
                have q3 := cell_al hE.c3
                have q4 := cell_al hE.c4
                have q5 := cell_al hE.c5
                have q6 := cell_al hE.c6
                have B1 : Hid (Below w.heap.size w w1) := bel_tr (bel_al _ _) b1
                clear hE b1 HE CL
                go_wp2_with (first
                  | (go_at_call 32; refine (within_val _ _ _ _).mono ?_; rintro x w2 ⟨rfl, hw2⟩; subst hw2)
                  | (go_at_call 33; refine (CA.out _ (bel_tr B1.out (bel_al _ _))).mono ?_; rintro x w2 ⟨rfl, hw2⟩; subst hw2))
                go_ret
                exact ⟨congrArg (fun b => Ending.returned (.bool b)) HV.out.symm, bel_tr B1.out (bel_al _ _)⟩
              | true =>
                cases hb7 : allB 0 9007199254740991 ls with
                | false =>
                  have HV : Hid (u = false) := HU.out (fun r => by have r2 := r.each; simp only at r2; rw [hb7] at r2; cases r2)
                  have f1 : decide ((p.size : Int) ≤ 120) = true := by rw [← hb1]; congr 1; apply propext; omega
                  have f2 : decide ((t.size : Int) ≤ (TO : Int)) = true := by rw [← hb2]; congr 1; apply propext; omega
                  have f6 : decide ((m : Int) ≤ (LM : Int)) = true := by rw [← hb6]; congr 1; apply propext; omega
                  clear hb1
                  go_enter Try.func25, Try.ntmps25
                  go_wp2_with fail
                  refine (CL.out _).mono ?_
                  rintro x w1 ⟨rfl, b1⟩
                  have hE := HE.out.below b1
                  have q0 := cell_al hE.c0
                  have q1 := cell_al hE.c1
                  have q2 := cell_al hE.c2
                  have q3 := cell_al hE.c3
                  have q4 := cell_al hE.c4
                  have q5 := cell_al hE.c5
                  have q6 := cell_al hE.c6
                  have B1 : Hid (Below w.heap.size w w1) := bel_tr (bel_al _ _) b1
                  clear hE b1 HE CL
                  go_wp2_with (first
                    | (go_at_call 32; refine (within_val _ _ _ _).mono ?_; rintro x w2 ⟨rfl, hw2⟩; subst hw2)
                    | (go_at_call 33; refine (CA.out _ (bel_tr B1.out (bel_al _ _))).mono ?_; rintro x w2 ⟨rfl, hw2⟩; subst hw2))
                  go_ret
                  exact ⟨congrArg (fun b => Ending.returned (.bool b)) HV.out.symm, bel_tr B1.out (bel_al _ _)⟩
                | true =>
                  have HV : Hid (u = true) := HY.out ⟨hb0, of_decide_eq_true hb1, (by simp only; rw [GT.out]; exact of_decide_eq_true hb2), hb3, hb4, (by simp only; rw [GL.out, GH.out]; exact hb5), (by simp only; rw [GM.out, HN.out]; exact of_decide_eq_true hb6), hb7⟩
                  have f1 : decide ((p.size : Int) ≤ 120) = true := by rw [← hb1]; congr 1; apply propext; omega
                  have f2 : decide ((t.size : Int) ≤ (TO : Int)) = true := by rw [← hb2]; congr 1; apply propext; omega
                  have f6 : decide ((m : Int) ≤ (LM : Int)) = true := by rw [← hb6]; congr 1; apply propext; omega
                  clear hb1
                  go_enter Try.func25, Try.ntmps25
                  go_wp2_with fail
                  refine (CL.out _).mono ?_
                  rintro x w1 ⟨rfl, b1⟩
                  have hE := HE.out.below b1
                  have q0 := cell_al hE.c0
                  have q1 := cell_al hE.c1
                  have q2 := cell_al hE.c2
                  have q3 := cell_al hE.c3
                  have q4 := cell_al hE.c4
                  have q5 := cell_al hE.c5
                  have q6 := cell_al hE.c6
                  have B1 : Hid (Below w.heap.size w w1) := bel_tr (bel_al _ _) b1
                  clear hE b1 HE CL
                  go_wp2_with (first
                    | (go_at_call 32; refine (within_val _ _ _ _).mono ?_; rintro x w2 ⟨rfl, hw2⟩; subst hw2)
                    | (go_at_call 33; refine (CA.out _ (bel_tr B1.out (bel_al _ _))).mono ?_; rintro x w2 ⟨rfl, hw2⟩; subst hw2))
                  go_ret
                  exact ⟨congrArg (fun b => Ending.returned (.bool b)) HV.out.symm, bel_tr B1.out (bel_al _ _)⟩

end Go.Proofs.Ythogpaojdlfjcaa.Edi
