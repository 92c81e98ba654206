/- EditBack: for every edit, every string and every number: the statement's function returns true; nothing that was there is changed. No condition. -/
import Derived.Test.YtlinlbfiheoniaaEditL1
import Derived.Test.YtlinlbfiheoniaaEditL2
import Derived.Test.YtlinlbfiheoniaaEditOpen
namespace Go.Proofs.Ytlinlbfiheoniaa.editBack
open Go.ChangeShapes Go.WideShapes Go.ChangeAt Go.RowKit Go.Proofs.Ytlinlbfiheoniaa Go.Proofs.Ytlinlbfiheoniaa.Edi
open Go.ChangeMaps (open_string shut_string)
set_option linter.unusedVariables false

theorem own : ownKnob Try.prog.godebug = none := by kernel_rfl

theorem rems (a D : Int) (h0 : -9223372036854775808 ≤ a) (hD : 0 < D) : ∃ Q : Nat, (a < 0 → -(a + 1).tmod D = (Q : Int)) ∧ (¬ a < 0 → a.tmod D = (Q : Int)) ∧ (¬ a < 0 → a % D = (Q : Int)) ∧ (Q : Int) < D := by
  by_cases h : a < 0
  · have e : -(a + 1).tmod D = (-(a + 1)) % D := by rw [← Int.neg_tmod, Int.tmod_eq_emod_of_nonneg (by omega)]
    have e1 := Int.emod_nonneg (-(a + 1)) (b := D) (by omega)
    have e2 := Int.emod_lt_of_pos (-(a + 1)) hD
    exact ⟨((-(a + 1)) % D).toNat, fun _ => by omega, fun h' => absurd h h', fun h' => absurd h h', by omega⟩
  · have e : a.tmod D = a % D := Int.tmod_eq_emod_of_nonneg (by omega)
    have e1 := Int.emod_nonneg a (b := D) (by omega)
    have e2 := Int.emod_lt_of_pos a hD
    exact ⟨(a % D).toNat, fun h' => absurd h' h, fun _ => by omega, fun _ => by omega, by omega⟩

set_option maxRecDepth 100000 in
set_option maxHeartbeats 8000000 in
theorem core00 {e : Ed} {a : Option Addr} {m q : Nat} (w : World) (h : Nm w a m e.ls) (B : ByteArray) (cut : Int) (h0 : -9223372036854775808 ≤ cut) (h1 : cut ≤ 9223372036854775807) (hB : B.size ≤ maxLen) (hr : ¬ Rt e) (hd : decE B = none) :
    Calls Try.prog 4 #[edV e a m q, .string B, .int .i64 cut] w fun x w' => x = .returned (.bool true) ∧ Below w.heap.size w w' := by
  have CB : Hid (∀ W, Calls Try.prog 11 #[.string B] W fun x w' => x = .returned (.tuple #[.agg #[.int .i64 0, .string ⟨#[]⟩, .string ⟨#[]⟩, .int .i64 0, .int .i64 0, .int .i64 0, .slice none 0 0], .int .i64 2]) ∧ Below W.heap.size W w') := fun W => decode_no B W hB hd
  have CE : Hid (∀ W, Below w.heap.size w W → Calls Try.prog 8 #[edV e a m q] W fun x w' => x = .returned (.tuple #[.string ⟨#[]⟩, .int .i64 1]) ∧ Below W.heap.size W w') := fun W hb => encode_no (h.below hb) hr
  obtain ⟨k, p, t, c, l, n, ls⟩ := e
  unfold edV at CE ⊢
  simp only at CE ⊢
  have KE : Hid (EdAt (w.alloc (.cells #[.int .i64 k, .string p, .string t, .int .i64 c, .int .i64 l, .int .i64 n, .slice a m q] 24)) w.heap.size ⟨k, p, t, c, l, n, ls⟩ a m q) := EdAt.new w 24 ⟨k, p, t, c, l, n, ls⟩ a m q
  have KB : Hid (Below w.heap.size w (w.alloc (.cells #[.int .i64 k, .string p, .string t, .int .i64 c, .int .i64 l, .int .i64 n, .slice a m q] 24))) := bel_al _ _
  clear h hr hd
  go_enter Try.func4, Try.ntmps4
  go_wp2_with fail
  refine (examples_val _).mono ?_
  rintro x w1 ⟨rfl, b⟩
  replace KB : Hid (Below w.heap.size w w1) := bel_tr KB.out b
  replace KE : Hid (EdAt w1 w.heap.size ⟨k, p, t, c, l, n, ls⟩ a m q) := KE.out.below b
  clear b
  have q0w1 := KE.out.c0
  have q1w1 := KE.out.c1
  have q2w1 := KE.out.c2
  have q3w1 := KE.out.c3
  have q4w1 := KE.out.c4
  have q5w1 := KE.out.c5
  have q6w1 := KE.out.c6
  simp only at q0w1 q1w1 q2w1 q3w1 q4w1 q5w1
  go_wp2_with fail
  refine (CE.out _ KB.out).mono ?_
  rintro x w2 ⟨rfl, b⟩
  clear q0w1 q1w1 q2w1 q3w1 q4w1 q5w1 q6w1
  replace KB : Hid (Below w.heap.size w w2) := bel_tr KB.out b
  replace KE : Hid (EdAt w2 w.heap.size ⟨k, p, t, c, l, n, ls⟩ a m q) := KE.out.below b
  clear b
  go_wp2_with fail
  refine (CB.out _).mono ?_
  rintro x w7 ⟨rfl, b⟩
  replace KB : Hid (Below w.heap.size w w7) := bel_tr KB.out b
  clear b
  go_wp2
  go_ret
  exact ⟨rfl, bel_tr KB.out (bel_al _ _)⟩

set_option maxRecDepth 100000 in
set_option maxHeartbeats 8000000 in
theorem core01 {e f : Ed} {a : Option Addr} {m q : Nat} (w : World) (h : Nm w a m e.ls) (B : ByteArray) (cut : Int) (h0 : -9223372036854775808 ≤ cut) (h1 : cut ≤ 9223372036854775807) (hB : B.size ≤ maxLen) (hr : ¬ Rt e) (hd : decE B = some f) :
    Calls Try.prog 4 #[edV e a m q, .string B, .int .i64 cut] w fun x w' => x = .returned (.bool true) ∧ Below w.heap.size w w' := by
  have CB : Hid (∀ W, Calls Try.prog 11 #[.string B] W fun x w' => DecR W.heap.size (.int .i64 0) f x w' ∧ Below W.heap.size W w') := fun W => decode_yes B f W hB hd
  have hf := dec_sound hd
  have CF : Hid (∀ W b y z, Nm W b y f.ls → Calls Try.prog 8 #[edV f b y z] W fun x w' => x = .returned (.tuple #[.string B, .int .i64 0]) ∧ Below W.heap.size W w') := fun W b y z hn => encode_yes hn hf.1 B hf.2.symm
  have CG : Hid (∀ W b y z, Nm W b y f.ls → Calls Try.prog 13 #[edV f b y z] W fun x w' => x = .returned (.bool true) ∧ Below W.heap.size W w') := fun W b y z hn => right_val hn true ⟨fun _ => hf.1, fun _ => rfl⟩
  obtain ⟨k2, p2, t2, c2, l2, n2, ls2⟩ := f
  unfold edV at CF CG
  simp only at CF CG
  clear hf
  have CE : Hid (∀ W, Below w.heap.size w W → Calls Try.prog 8 #[edV e a m q] W fun x w' => x = .returned (.tuple #[.string ⟨#[]⟩, .int .i64 1]) ∧ Below W.heap.size W w') := fun W hb => encode_no (h.below hb) hr
  obtain ⟨k, p, t, c, l, n, ls⟩ := e
  unfold edV at CE ⊢
  simp only at CE ⊢
  have KE : Hid (EdAt (w.alloc (.cells #[.int .i64 k, .string p, .string t, .int .i64 c, .int .i64 l, .int .i64 n, .slice a m q] 24)) w.heap.size ⟨k, p, t, c, l, n, ls⟩ a m q) := EdAt.new w 24 ⟨k, p, t, c, l, n, ls⟩ a m q
  have KB : Hid (Below w.heap.size w (w.alloc (.cells #[.int .i64 k, .string p, .string t, .int .i64 c, .int .i64 l, .int .i64 n, .slice a m q] 24))) := bel_al _ _
  clear h hr hd
  go_enter Try.func4, Try.ntmps4
  go_wp2_with fail
  refine (examples_val _).mono ?_
  rintro x w1 ⟨rfl, b⟩
  replace KB : Hid (Below w.heap.size w w1) := bel_tr KB.out b
  replace KE : Hid (EdAt w1 w.heap.size ⟨k, p, t, c, l, n, ls⟩ a m q) := KE.out.below b
  clear b
  have q0w1 := KE.out.c0
  have q1w1 := KE.out.c1
  have q2w1 := KE.out.c2
  have q3w1 := KE.out.c3
  have q4w1 := KE.out.c4
  have q5w1 := KE.out.c5
  have q6w1 := KE.out.c6
  simp only at q0w1 q1w1 q2w1 q3w1 q4w1 q5w1
  go_wp2_with fail
  refine (CE.out _ KB.out).mono ?_
  rintro x w2 ⟨rfl, b⟩
  clear q0w1 q1w1 q2w1 q3w1 q4w1 q5w1 q6w1
  replace KB : Hid (Below w.heap.size w w2) := bel_tr KB.out b
  replace KE : Hid (EdAt w2 w.heap.size ⟨k, p, t, c, l, n, ls⟩ a m q) := KE.out.below b
  clear b
  go_wp2_with fail
  refine (CB.out _).mono ?_
  rintro x w7 ⟨⟨ya, ym, yq, yg, rfl, hL⟩, b⟩
  replace KB : Hid (Below w.heap.size w w7) := bel_tr KB.out b
  have HN : Hid (Nm (w7.alloc (.cells #[.int .i64 k2, .string p2, .string t2, .int .i64 c2, .int .i64 l2, .int .i64 n2, .slice ya ym yq] 24)) ya ym ls2) := hL.nm.below (bel_al _ _)
  have HF : Hid (EdAt (w7.alloc (.cells #[.int .i64 k2, .string p2, .string t2, .int .i64 c2, .int .i64 l2, .int .i64 n2, .slice ya ym yq] 24)) w7.heap.size ⟨k2, p2, t2, c2, l2, n2, ls2⟩ ya ym yq) := EdAt.new w7 24 ⟨k2, p2, t2, c2, l2, n2, ls2⟩ ya ym yq
  clear b hL
  unfold edV
  simp only
  go_wp2_with fail
  refine (CF.out _ _ _ _ HN.out).mono ?_
  rintro x w8 ⟨rfl, b⟩
  have r0 := (HF.out.below b).c0
  have r1 := (HF.out.below b).c1
  have r2 := (HF.out.below b).c2
  have r3 := (HF.out.below b).c3
  have r4 := (HF.out.below b).c4
  have r5 := (HF.out.below b).c5
  have r6 := (HF.out.below b).c6
  simp only at r0 r1 r2 r3 r4 r5
  replace KB : Hid (Below w.heap.size w w8) := bel_tr KB.out (bel_tr (bel_al _ _) b)
  replace HN : Hid (Nm w8 ya ym ls2) := HN.out.below b
  clear b
  go_wp2_with (go_at_call 13; refine (CG.out _ _ _ _ HN.out).mono ?_; rintro x w9 ⟨rfl, b⟩)
  go_ret
  exact ⟨rfl, bel_tr KB.out b⟩

set_option maxRecDepth 100000 in
set_option maxHeartbeats 8000000 in
theorem core10 {e : Ed} {a : Option Addr} {m q : Nat} (w : World) (h : Nm w a m e.ls) (B : ByteArray) (cut : Int) (h0 : -9223372036854775808 ≤ cut) (h1 : cut ≤ 9223372036854775807) (hB : B.size ≤ maxLen) (hr : Rt e) (hd : decE B = none) :
    Calls Try.prog 4 #[edV e a m q, .string B, .int .i64 cut] w fun x w' => x = .returned (.bool true) ∧ Below w.heap.size w w' := by
  have CB : Hid (∀ W, Calls Try.prog 11 #[.string B] W fun x w' => x = .returned (.tuple #[.agg #[.int .i64 0, .string ⟨#[]⟩, .string ⟨#[]⟩, .int .i64 0, .int .i64 0, .int .i64 0, .slice none 0 0], .int .i64 2]) ∧ Below W.heap.size W w') := fun W => decode_no B W hB hd
  obtain ⟨E, hE⟩ : ∃ E, encS e = E := ⟨_, rfl⟩
  have hEs : E.size ≤ 9000 := by rw [← hE]; exact encS_size hr.fit
  have hE0 : 0 < E.size := by rw [← hE, ← size_list, encS_list]; exact encL_pos e
  obtain ⟨Q, d1, d2, d3, hQ⟩ := rems cut E.size h0 (by omega)
  have hQ2 : Q < E.size := by omega
  have hem := is_empty (r := E) (decide_eq_false (by omega))
  have CE : Hid (∀ W, Below w.heap.size w W → Calls Try.prog 8 #[edV e a m q] W fun x w' => x = .returned (.tuple #[.string E, .int .i64 0]) ∧ Below W.heap.size W w') := fun W hb => encode_yes (h.below hb) hr E hE
  have CR : Hid (∀ W, Below w.heap.size w W → Calls Try.prog 13 #[edV e a m q] W fun x w' => x = .returned (.bool true) ∧ Below W.heap.size W w') := fun W hb => right_val (h.below hb) true ⟨fun _ => hr, fun _ => rfl⟩
  have CD : Hid (∀ W, Calls Try.prog 11 #[.string E] W fun x w' => DecR W.heap.size (.int .i64 0) e x w' ∧ Below W.heap.size W w') := fun W => decode_yes E e W (by unfold maxLen; omega) (by rw [← hE]; exact dec_back hr)
  have CC : Hid (∀ W, Calls Try.prog 11 #[.string (E.extract 0 Q)] W fun x w' => x = .returned (.tuple #[.agg #[.int .i64 0, .string ⟨#[]⟩, .string ⟨#[]⟩, .int .i64 0, .int .i64 0, .int .i64 0, .slice none 0 0], .int .i64 2]) ∧ Below W.heap.size W w') := fun W => decode_no (E.extract 0 Q) W (by have := ext_size E 0 Q; unfold maxLen; omega) (by
    have hq3 := hQ2
    rw [← hE, ← size_list, encS_list] at hq3
    rw [← hE]; exact dec_cut hr Q hq3)
  have CS : Hid (∀ W b y z, Below w.heap.size w W → Nm W b y e.ls → Calls Try.prog 12 #[edV e b y z, edV e a m q] W fun x w' => x = .returned (.bool true) ∧ Below W.heap.size W w') := fun W b y z hb hn => same_val hn (h.below hb) true ⟨fun _ => rfl, fun _ => rfl⟩
  obtain ⟨k, p, t, c, l, n, ls⟩ := e
  unfold edV at CE CR CS ⊢
  simp only at CE CR CS ⊢
  have hq0 : (0 : Int) ≤ (Q : Int) := Int.natCast_nonneg _
  have hqs : (Q : Int) ≤ (E.size : Int) := by omega
  have hsz0 : ((E.size : Int) == 0) = false := beq_eq_false_iff_ne.2 (by omega)
  have KE : Hid (EdAt (w.alloc (.cells #[.int .i64 k, .string p, .string t, .int .i64 c, .int .i64 l, .int .i64 n, .slice a m q] 24)) w.heap.size ⟨k, p, t, c, l, n, ls⟩ a m q) := EdAt.new w 24 ⟨k, p, t, c, l, n, ls⟩ a m q
  have KB : Hid (Below w.heap.size w (w.alloc (.cells #[.int .i64 k, .string p, .string t, .int .i64 c, .int .i64 l, .int .i64 n, .slice a m q] 24))) := bel_al _ _
  clear h hr hd hQ hE
  by_cases hneg : cut < 0
  · have e1 := d1 hneg
    have hg : decide (cut < 0) = true := decide_eq_true hneg
    clear d1 d2 d3
    go_enter Try.func4, Try.ntmps4
    go_wp2_with fail
    refine (examples_val _).mono ?_
    rintro x w1 ⟨rfl, b⟩
    replace KB : Hid (Below w.heap.size w w1) := bel_tr KB.out b
    replace KE : Hid (EdAt w1 w.heap.size ⟨k, p, t, c, l, n, ls⟩ a m q) := KE.out.below b
    clear b
    have q0w1 := KE.out.c0
    have q1w1 := KE.out.c1
    have q2w1 := KE.out.c2
    have q3w1 := KE.out.c3
    have q4w1 := KE.out.c4
    have q5w1 := KE.out.c5
    have q6w1 := KE.out.c6
    simp only at q0w1 q1w1 q2w1 q3w1 q4w1 q5w1
    go_wp2_with fail
    refine (CE.out _ KB.out).mono ?_
    rintro x w2 ⟨rfl, b⟩
    clear q0w1 q1w1 q2w1 q3w1 q4w1 q5w1 q6w1
    replace KB : Hid (Below w.heap.size w w2) := bel_tr KB.out b
    replace KE : Hid (EdAt w2 w.heap.size ⟨k, p, t, c, l, n, ls⟩ a m q) := KE.out.below b
    clear b
    go_wp2_with fail
    refine (CD.out _).mono ?_
    rintro x w3 ⟨⟨la, lm, lq, lg, rfl, hL⟩, b⟩
    replace KB : Hid (Below w.heap.size w w3) := bel_tr KB.out b
    replace KE : Hid (EdAt w3 w.heap.size ⟨k, p, t, c, l, n, ls⟩ a m q) := KE.out.below b
    clear b
    have HN : Hid (Nm (w3.alloc (.cells #[.int .i64 k, .string p, .string t, .int .i64 c, .int .i64 l, .int .i64 n, .slice la lm lq] 24)) la lm ls) := hL.nm.below (bel_al _ _)
    have b := bel_al w3 (.cells #[.int .i64 k, .string p, .string t, .int .i64 c, .int .i64 l, .int .i64 n, .slice la lm lq] 24)
    clear hL
    unfold edV
    simp only
    replace KB : Hid (Below w.heap.size w (w3.alloc (.cells #[.int .i64 k, .string p, .string t, .int .i64 c, .int .i64 l, .int .i64 n, .slice la lm lq] 24))) := bel_tr KB.out b
    replace KE : Hid (EdAt (w3.alloc (.cells #[.int .i64 k, .string p, .string t, .int .i64 c, .int .i64 l, .int .i64 n, .slice la lm lq] 24)) w.heap.size ⟨k, p, t, c, l, n, ls⟩ a m q) := KE.out.below b
    clear b
    have q0w3 := KE.out.c0
    have q1w3 := KE.out.c1
    have q2w3 := KE.out.c2
    have q3w3 := KE.out.c3
    have q4w3 := KE.out.c4
    have q5w3 := KE.out.c5
    have q6w3 := KE.out.c6
    simp only at q0w3 q1w3 q2w3 q3w3 q4w3 q5w3
    go_wp2_with fail
    refine (CS.out _ _ _ _ KB.out HN.out).mono ?_
    rintro x w4 ⟨rfl, b⟩
    clear q0w3 q1w3 q2w3 q3w3 q4w3 q5w3 q6w3
    replace KB : Hid (Below w.heap.size w w4) := bel_tr KB.out b
    replace KE : Hid (EdAt w4 w.heap.size ⟨k, p, t, c, l, n, ls⟩ a m q) := KE.out.below b
    clear b
    clear HN
    go_wp2_with fail
    refine (CC.out _).mono ?_
    rintro x w5 ⟨rfl, b⟩
    replace KB : Hid (Below w.heap.size w w5) := bel_tr KB.out b
    replace KE : Hid (EdAt w5 w.heap.size ⟨k, p, t, c, l, n, ls⟩ a m q) := KE.out.below b
    clear b
    have b := bel_al w5 (.cells #[.int .i64 0, .string ⟨#[]⟩, .string ⟨#[]⟩, .int .i64 0, .int .i64 0, .int .i64 0, .slice none 0 0] 24)
    replace KB : Hid (Below w.heap.size w (w5.alloc (.cells #[.int .i64 0, .string ⟨#[]⟩, .string ⟨#[]⟩, .int .i64 0, .int .i64 0, .int .i64 0, .slice none 0 0] 24))) := bel_tr KB.out b
    replace KE : Hid (EdAt (w5.alloc (.cells #[.int .i64 0, .string ⟨#[]⟩, .string ⟨#[]⟩, .int .i64 0, .int .i64 0, .int .i64 0, .slice none 0 0] 24)) w.heap.size ⟨k, p, t, c, l, n, ls⟩ a m q) := KE.out.below b
    clear b
    have q0w5 := KE.out.c0
    have q1w5 := KE.out.c1
    have q2w5 := KE.out.c2
    have q3w5 := KE.out.c3
    have q4w5 := KE.out.c4
    have q5w5 := KE.out.c5
    have q6w5 := KE.out.c6
    simp only at q0w5 q1w5 q2w5 q3w5 q4w5 q5w5
    go_wp2_with fail
    refine (CR.out _ KB.out).mono ?_
    rintro x w6 ⟨rfl, b⟩
    clear q0w5 q1w5 q2w5 q3w5 q4w5 q5w5 q6w5
    replace KB : Hid (Below w.heap.size w w6) := bel_tr KB.out b
    replace KE : Hid (EdAt w6 w.heap.size ⟨k, p, t, c, l, n, ls⟩ a m q) := KE.out.below b
    clear b
    go_wp2_with fail
    refine (CB.out _).mono ?_
    rintro x w7 ⟨rfl, b⟩
    replace KB : Hid (Below w.heap.size w w7) := bel_tr KB.out b
    clear b
    go_wp2
    go_ret
    exact ⟨rfl, bel_tr KB.out (bel_al _ _)⟩
  · have e1 := d2 hneg
    have e2 := d3 hneg
    have hg : decide (cut < 0) = false := decide_eq_false hneg
    clear d1 d2 d3
    go_enter Try.func4, Try.ntmps4
    go_wp2_with fail
    refine (examples_val _).mono ?_
    rintro x w1 ⟨rfl, b⟩
    replace KB : Hid (Below w.heap.size w w1) := bel_tr KB.out b
    replace KE : Hid (EdAt w1 w.heap.size ⟨k, p, t, c, l, n, ls⟩ a m q) := KE.out.below b
    clear b
    have q0w1 := KE.out.c0
    have q1w1 := KE.out.c1
    have q2w1 := KE.out.c2
    have q3w1 := KE.out.c3
    have q4w1 := KE.out.c4
    have q5w1 := KE.out.c5
    have q6w1 := KE.out.c6
    simp only at q0w1 q1w1 q2w1 q3w1 q4w1 q5w1
    go_wp2_with fail
    refine (CE.out _ KB.out).mono ?_
    rintro x w2 ⟨rfl, b⟩
    clear q0w1 q1w1 q2w1 q3w1 q4w1 q5w1 q6w1
    replace KB : Hid (Below w.heap.size w w2) := bel_tr KB.out b
    replace KE : Hid (EdAt w2 w.heap.size ⟨k, p, t, c, l, n, ls⟩ a m q) := KE.out.below b
    clear b
    go_wp2_with fail
    refine (CD.out _).mono ?_
    rintro x w3 ⟨⟨la, lm, lq, lg, rfl, hL⟩, b⟩
    replace KB : Hid (Below w.heap.size w w3) := bel_tr KB.out b
    replace KE : Hid (EdAt w3 w.heap.size ⟨k, p, t, c, l, n, ls⟩ a m q) := KE.out.below b
    clear b
    have HN : Hid (Nm (w3.alloc (.cells #[.int .i64 k, .string p, .string t, .int .i64 c, .int .i64 l, .int .i64 n, .slice la lm lq] 24)) la lm ls) := hL.nm.below (bel_al _ _)
    have b := bel_al w3 (.cells #[.int .i64 k, .string p, .string t, .int .i64 c, .int .i64 l, .int .i64 n, .slice la lm lq] 24)
    clear hL
    unfold edV
    simp only
    replace KB : Hid (Below w.heap.size w (w3.alloc (.cells #[.int .i64 k, .string p, .string t, .int .i64 c, .int .i64 l, .int .i64 n, .slice la lm lq] 24))) := bel_tr KB.out b
    replace KE : Hid (EdAt (w3.alloc (.cells #[.int .i64 k, .string p, .string t, .int .i64 c, .int .i64 l, .int .i64 n, .slice la lm lq] 24)) w.heap.size ⟨k, p, t, c, l, n, ls⟩ a m q) := KE.out.below b
    clear b
    have q0w3 := KE.out.c0
    have q1w3 := KE.out.c1
    have q2w3 := KE.out.c2
    have q3w3 := KE.out.c3
    have q4w3 := KE.out.c4
    have q5w3 := KE.out.c5
    have q6w3 := KE.out.c6
    simp only at q0w3 q1w3 q2w3 q3w3 q4w3 q5w3
    go_wp2_with fail
    refine (CS.out _ _ _ _ KB.out HN.out).mono ?_
    rintro x w4 ⟨rfl, b⟩
    clear q0w3 q1w3 q2w3 q3w3 q4w3 q5w3 q6w3
    replace KB : Hid (Below w.heap.size w w4) := bel_tr KB.out b
    replace KE : Hid (EdAt w4 w.heap.size ⟨k, p, t, c, l, n, ls⟩ a m q) := KE.out.below b
    clear b
    clear HN
    go_wp2_with fail
    refine (CC.out _).mono ?_
    rintro x w5 ⟨rfl, b⟩
    replace KB : Hid (Below w.heap.size w w5) := bel_tr KB.out b
    replace KE : Hid (EdAt w5 w.heap.size ⟨k, p, t, c, l, n, ls⟩ a m q) := KE.out.below b
    clear b
    have b := bel_al w5 (.cells #[.int .i64 0, .string ⟨#[]⟩, .string ⟨#[]⟩, .int .i64 0, .int .i64 0, .int .i64 0, .slice none 0 0] 24)
    replace KB : Hid (Below w.heap.size w (w5.alloc (.cells #[.int .i64 0, .string ⟨#[]⟩, .string ⟨#[]⟩, .int .i64 0, .int .i64 0, .int .i64 0, .slice none 0 0] 24))) := bel_tr KB.out b
    replace KE : Hid (EdAt (w5.alloc (.cells #[.int .i64 0, .string ⟨#[]⟩, .string ⟨#[]⟩, .int .i64 0, .int .i64 0, .int .i64 0, .slice none 0 0] 24)) w.heap.size ⟨k, p, t, c, l, n, ls⟩ a m q) := KE.out.below b
    clear b
    have q0w5 := KE.out.c0
    have q1w5 := KE.out.c1
    have q2w5 := KE.out.c2
    have q3w5 := KE.out.c3
    have q4w5 := KE.out.c4
    have q5w5 := KE.out.c5
    have q6w5 := KE.out.c6
    simp only at q0w5 q1w5 q2w5 q3w5 q4w5 q5w5
    go_wp2_with fail
    refine (CR.out _ KB.out).mono ?_
    rintro x w6 ⟨rfl, b⟩
    clear q0w5 q1w5 q2w5 q3w5 q4w5 q5w5 q6w5
    replace KB : Hid (Below w.heap.size w w6) := bel_tr KB.out b
    replace KE : Hid (EdAt w6 w.heap.size ⟨k, p, t, c, l, n, ls⟩ a m q) := KE.out.below b
    clear b
    go_wp2_with fail
    refine (CB.out _).mono ?_
    rintro x w7 ⟨rfl, b⟩
    replace KB : Hid (Below w.heap.size w w7) := bel_tr KB.out b
    clear b
    go_wp2
    go_ret
    exact ⟨rfl, bel_tr KB.out (bel_al _ _)⟩

set_option maxRecDepth 100000 in
set_option maxHeartbeats 8000000 in
theorem core11 {e f : Ed} {a : Option Addr} {m q : Nat} (w : World) (h : Nm w a m e.ls) (B : ByteArray) (cut : Int) (h0 : -9223372036854775808 ≤ cut) (h1 : cut ≤ 9223372036854775807) (hB : B.size ≤ maxLen) (hr : Rt e) (hd : decE B = some f) :
    Calls Try.prog 4 #[edV e a m q, .string B, .int .i64 cut] w fun x w' => x = .returned (.bool true) ∧ Below w.heap.size w w' := by
  have CB : Hid (∀ W, Calls Try.prog 11 #[.string B] W fun x w' => DecR W.heap.size (.int .i64 0) f x w' ∧ Below W.heap.size W w') := fun W => decode_yes B f W hB hd
  have hf := dec_sound hd
  have CF : Hid (∀ W b y z, Nm W b y f.ls → Calls Try.prog 8 #[edV f b y z] W fun x w' => x = .returned (.tuple #[.string B, .int .i64 0]) ∧ Below W.heap.size W w') := fun W b y z hn => encode_yes hn hf.1 B hf.2.symm
  have CG : Hid (∀ W b y z, Nm W b y f.ls → Calls Try.prog 13 #[edV f b y z] W fun x w' => x = .returned (.bool true) ∧ Below W.heap.size W w') := fun W b y z hn => right_val hn true ⟨fun _ => hf.1, fun _ => rfl⟩
  obtain ⟨k2, p2, t2, c2, l2, n2, ls2⟩ := f
  unfold edV at CF CG
  simp only at CF CG
  clear hf
  obtain ⟨E, hE⟩ : ∃ E, encS e = E := ⟨_, rfl⟩
  have hEs : E.size ≤ 9000 := by rw [← hE]; exact encS_size hr.fit
  have hE0 : 0 < E.size := by rw [← hE, ← size_list, encS_list]; exact encL_pos e
  obtain ⟨Q, d1, d2, d3, hQ⟩ := rems cut E.size h0 (by omega)
  have hQ2 : Q < E.size := by omega
  have hem := is_empty (r := E) (decide_eq_false (by omega))
  have CE : Hid (∀ W, Below w.heap.size w W → Calls Try.prog 8 #[edV e a m q] W fun x w' => x = .returned (.tuple #[.string E, .int .i64 0]) ∧ Below W.heap.size W w') := fun W hb => encode_yes (h.below hb) hr E hE
  have CR : Hid (∀ W, Below w.heap.size w W → Calls Try.prog 13 #[edV e a m q] W fun x w' => x = .returned (.bool true) ∧ Below W.heap.size W w') := fun W hb => right_val (h.below hb) true ⟨fun _ => hr, fun _ => rfl⟩
  have CD : Hid (∀ W, Calls Try.prog 11 #[.string E] W fun x w' => DecR W.heap.size (.int .i64 0) e x w' ∧ Below W.heap.size W w') := fun W => decode_yes E e W (by unfold maxLen; omega) (by rw [← hE]; exact dec_back hr)
  have CC : Hid (∀ W, Calls Try.prog 11 #[.string (E.extract 0 Q)] W fun x w' => x = .returned (.tuple #[.agg #[.int .i64 0, .string ⟨#[]⟩, .string ⟨#[]⟩, .int .i64 0, .int .i64 0, .int .i64 0, .slice none 0 0], .int .i64 2]) ∧ Below W.heap.size W w') := fun W => decode_no (E.extract 0 Q) W (by have := ext_size E 0 Q; unfold maxLen; omega) (by
    have hq3 := hQ2
    rw [← hE, ← size_list, encS_list] at hq3
    rw [← hE]; exact dec_cut hr Q hq3)
  have CS : Hid (∀ W b y z, Below w.heap.size w W → Nm W b y e.ls → Calls Try.prog 12 #[edV e b y z, edV e a m q] W fun x w' => x = .returned (.bool true) ∧ Below W.heap.size W w') := fun W b y z hb hn => same_val hn (h.below hb) true ⟨fun _ => rfl, fun _ => rfl⟩
  obtain ⟨k, p, t, c, l, n, ls⟩ := e
  unfold edV at CE CR CS ⊢
  simp only at CE CR CS ⊢
  have hq0 : (0 : Int) ≤ (Q : Int) := Int.natCast_nonneg _
  have hqs : (Q : Int) ≤ (E.size : Int) := by omega
  have hsz0 : ((E.size : Int) == 0) = false := beq_eq_false_iff_ne.2 (by omega)
  have KE : Hid (EdAt (w.alloc (.cells #[.int .i64 k, .string p, .string t, .int .i64 c, .int .i64 l, .int .i64 n, .slice a m q] 24)) w.heap.size ⟨k, p, t, c, l, n, ls⟩ a m q) := EdAt.new w 24 ⟨k, p, t, c, l, n, ls⟩ a m q
  have KB : Hid (Below w.heap.size w (w.alloc (.cells #[.int .i64 k, .string p, .string t, .int .i64 c, .int .i64 l, .int .i64 n, .slice a m q] 24))) := bel_al _ _
  clear h hr hd hQ hE
  by_cases hneg : cut < 0
  · have e1 := d1 hneg
    have hg : decide (cut < 0) = true := decide_eq_true hneg
    clear d1 d2 d3
    go_enter Try.func4, Try.ntmps4
    go_wp2_with fail
    refine (examples_val _).mono ?_
    rintro x w1 ⟨rfl, b⟩
    replace KB : Hid (Below w.heap.size w w1) := bel_tr KB.out b
    replace KE : Hid (EdAt w1 w.heap.size ⟨k, p, t, c, l, n, ls⟩ a m q) := KE.out.below b
    clear b
    have q0w1 := KE.out.c0
    have q1w1 := KE.out.c1
    have q2w1 := KE.out.c2
    have q3w1 := KE.out.c3
    have q4w1 := KE.out.c4
    have q5w1 := KE.out.c5
    have q6w1 := KE.out.c6
    simp only at q0w1 q1w1 q2w1 q3w1 q4w1 q5w1
    go_wp2_with fail
    refine (CE.out _ KB.out).mono ?_
    rintro x w2 ⟨rfl, b⟩
    clear q0w1 q1w1 q2w1 q3w1 q4w1 q5w1 q6w1
    replace KB : Hid (Below w.heap.size w w2) := bel_tr KB.out b
    replace KE : Hid (EdAt w2 w.heap.size ⟨k, p, t, c, l, n, ls⟩ a m q) := KE.out.below b
    clear b
    go_wp2_with fail
    refine (CD.out _).mono ?_
    rintro x w3 ⟨⟨la, lm, lq, lg, rfl, hL⟩, b⟩
    replace KB : Hid (Below w.heap.size w w3) := bel_tr KB.out b
    replace KE : Hid (EdAt w3 w.heap.size ⟨k, p, t, c, l, n, ls⟩ a m q) := KE.out.below b
    clear b
    have HN : Hid (Nm (w3.alloc (.cells #[.int .i64 k, .string p, .string t, .int .i64 c, .int .i64 l, .int .i64 n, .slice la lm lq] 24)) la lm ls) := hL.nm.below (bel_al _ _)
    have b := bel_al w3 (.cells #[.int .i64 k, .string p, .string t, .int .i64 c, .int .i64 l, .int .i64 n, .slice la lm lq] 24)
    clear hL
    unfold edV
    simp only
    replace KB : Hid (Below w.heap.size w (w3.alloc (.cells #[.int .i64 k, .string p, .string t, .int .i64 c, .int .i64 l, .int .i64 n, .slice la lm lq] 24))) := bel_tr KB.out b
    replace KE : Hid (EdAt (w3.alloc (.cells #[.int .i64 k, .string p, .string t, .int .i64 c, .int .i64 l, .int .i64 n, .slice la lm lq] 24)) w.heap.size ⟨k, p, t, c, l, n, ls⟩ a m q) := KE.out.below b
    clear b
    have q0w3 := KE.out.c0
    have q1w3 := KE.out.c1
    have q2w3 := KE.out.c2
    have q3w3 := KE.out.c3
    have q4w3 := KE.out.c4
    have q5w3 := KE.out.c5
    have q6w3 := KE.out.c6
    simp only at q0w3 q1w3 q2w3 q3w3 q4w3 q5w3
    go_wp2_with fail
    refine (CS.out _ _ _ _ KB.out HN.out).mono ?_
    rintro x w4 ⟨rfl, b⟩
    clear q0w3 q1w3 q2w3 q3w3 q4w3 q5w3 q6w3
    replace KB : Hid (Below w.heap.size w w4) := bel_tr KB.out b
    replace KE : Hid (EdAt w4 w.heap.size ⟨k, p, t, c, l, n, ls⟩ a m q) := KE.out.below b
    clear b
    clear HN
    go_wp2_with fail
    refine (CC.out _).mono ?_
    rintro x w5 ⟨rfl, b⟩
    replace KB : Hid (Below w.heap.size w w5) := bel_tr KB.out b
    replace KE : Hid (EdAt w5 w.heap.size ⟨k, p, t, c, l, n, ls⟩ a m q) := KE.out.below b
    clear b
    have b := bel_al w5 (.cells #[.int .i64 0, .string ⟨#[]⟩, .string ⟨#[]⟩, .int .i64 0, .int .i64 0, .int .i64 0, .slice none 0 0] 24)
    replace KB : Hid (Below w.heap.size w (w5.alloc (.cells #[.int .i64 0, .string ⟨#[]⟩, .string ⟨#[]⟩, .int .i64 0, .int .i64 0, .int .i64 0, .slice none 0 0] 24))) := bel_tr KB.out b
    replace KE : Hid (EdAt (w5.alloc (.cells #[.int .i64 0, .string ⟨#[]⟩, .string ⟨#[]⟩, .int .i64 0, .int .i64 0, .int .i64 0, .slice none 0 0] 24)) w.heap.size ⟨k, p, t, c, l, n, ls⟩ a m q) := KE.out.below b
    clear b
    have q0w5 := KE.out.c0
    have q1w5 := KE.out.c1
    have q2w5 := KE.out.c2
    have q3w5 := KE.out.c3
    have q4w5 := KE.out.c4
    have q5w5 := KE.out.c5
    have q6w5 := KE.out.c6
    simp only at q0w5 q1w5 q2w5 q3w5 q4w5 q5w5
    go_wp2_with fail
    refine (CR.out _ KB.out).mono ?_
    rintro x w6 ⟨rfl, b⟩
    clear q0w5 q1w5 q2w5 q3w5 q4w5 q5w5 q6w5
    replace KB : Hid (Below w.heap.size w w6) := bel_tr KB.out b
    replace KE : Hid (EdAt w6 w.heap.size ⟨k, p, t, c, l, n, ls⟩ a m q) := KE.out.below b
    clear b
    go_wp2_with fail
    refine (CB.out _).mono ?_
    rintro x w7 ⟨⟨ya, ym, yq, yg, rfl, hL⟩, b⟩
    replace KB : Hid (Below w.heap.size w w7) := bel_tr KB.out b
    have HN : Hid (Nm (w7.alloc (.cells #[.int .i64 k2, .string p2, .string t2, .int .i64 c2, .int .i64 l2, .int .i64 n2, .slice ya ym yq] 24)) ya ym ls2) := hL.nm.below (bel_al _ _)
    have HF : Hid (EdAt (w7.alloc (.cells #[.int .i64 k2, .string p2, .string t2, .int .i64 c2, .int .i64 l2, .int .i64 n2, .slice ya ym yq] 24)) w7.heap.size ⟨k2, p2, t2, c2, l2, n2, ls2⟩ ya ym yq) := EdAt.new w7 24 ⟨k2, p2, t2, c2, l2, n2, ls2⟩ ya ym yq
    clear b hL
    unfold edV
    simp only
    go_wp2_with fail
    refine (CF.out _ _ _ _ HN.out).mono ?_
    rintro x w8 ⟨rfl, b⟩
    have r0 := (HF.out.below b).c0
    have r1 := (HF.out.below b).c1
    have r2 := (HF.out.below b).c2
    have r3 := (HF.out.below b).c3
    have r4 := (HF.out.below b).c4
    have r5 := (HF.out.below b).c5
    have r6 := (HF.out.below b).c6
    simp only at r0 r1 r2 r3 r4 r5
    replace KB : Hid (Below w.heap.size w w8) := bel_tr KB.out (bel_tr (bel_al _ _) b)
    replace HN : Hid (Nm w8 ya ym ls2) := HN.out.below b
    clear b
    go_wp2_with (go_at_call 13; refine (CG.out _ _ _ _ HN.out).mono ?_; rintro x w9 ⟨rfl, b⟩)
    go_ret
    exact ⟨rfl, bel_tr KB.out b⟩
  · have e1 := d2 hneg
    have e2 := d3 hneg
    have hg : decide (cut < 0) = false := decide_eq_false hneg
    clear d1 d2 d3
    go_enter Try.func4, Try.ntmps4
    go_wp2_with fail
    refine (examples_val _).mono ?_
    rintro x w1 ⟨rfl, b⟩
    replace KB : Hid (Below w.heap.size w w1) := bel_tr KB.out b
    replace KE : Hid (EdAt w1 w.heap.size ⟨k, p, t, c, l, n, ls⟩ a m q) := KE.out.below b
    clear b
    have q0w1 := KE.out.c0
    have q1w1 := KE.out.c1
    have q2w1 := KE.out.c2
    have q3w1 := KE.out.c3
    have q4w1 := KE.out.c4
    have q5w1 := KE.out.c5
    have q6w1 := KE.out.c6
    simp only at q0w1 q1w1 q2w1 q3w1 q4w1 q5w1
    go_wp2_with fail
    refine (CE.out _ KB.out).mono ?_
    rintro x w2 ⟨rfl, b⟩
    clear q0w1 q1w1 q2w1 q3w1 q4w1 q5w1 q6w1
    replace KB : Hid (Below w.heap.size w w2) := bel_tr KB.out b
    replace KE : Hid (EdAt w2 w.heap.size ⟨k, p, t, c, l, n, ls⟩ a m q) := KE.out.below b
    clear b
    go_wp2_with fail
    refine (CD.out _).mono ?_
    rintro x w3 ⟨⟨la, lm, lq, lg, rfl, hL⟩, b⟩
    replace KB : Hid (Below w.heap.size w w3) := bel_tr KB.out b
    replace KE : Hid (EdAt w3 w.heap.size ⟨k, p, t, c, l, n, ls⟩ a m q) := KE.out.below b
    clear b
    have HN : Hid (Nm (w3.alloc (.cells #[.int .i64 k, .string p, .string t, .int .i64 c, .int .i64 l, .int .i64 n, .slice la lm lq] 24)) la lm ls) := hL.nm.below (bel_al _ _)
    have b := bel_al w3 (.cells #[.int .i64 k, .string p, .string t, .int .i64 c, .int .i64 l, .int .i64 n, .slice la lm lq] 24)
    clear hL
    unfold edV
    simp only
    replace KB : Hid (Below w.heap.size w (w3.alloc (.cells #[.int .i64 k, .string p, .string t, .int .i64 c, .int .i64 l, .int .i64 n, .slice la lm lq] 24))) := bel_tr KB.out b
    replace KE : Hid (EdAt (w3.alloc (.cells #[.int .i64 k, .string p, .string t, .int .i64 c, .int .i64 l, .int .i64 n, .slice la lm lq] 24)) w.heap.size ⟨k, p, t, c, l, n, ls⟩ a m q) := KE.out.below b
    clear b
    have q0w3 := KE.out.c0
    have q1w3 := KE.out.c1
    have q2w3 := KE.out.c2
    have q3w3 := KE.out.c3
    have q4w3 := KE.out.c4
    have q5w3 := KE.out.c5
    have q6w3 := KE.out.c6
    simp only at q0w3 q1w3 q2w3 q3w3 q4w3 q5w3
    go_wp2_with fail
    refine (CS.out _ _ _ _ KB.out HN.out).mono ?_
    rintro x w4 ⟨rfl, b⟩
    clear q0w3 q1w3 q2w3 q3w3 q4w3 q5w3 q6w3
    replace KB : Hid (Below w.heap.size w w4) := bel_tr KB.out b
    replace KE : Hid (EdAt w4 w.heap.size ⟨k, p, t, c, l, n, ls⟩ a m q) := KE.out.below b
    clear b
    clear HN
    go_wp2_with fail
    refine (CC.out _).mono ?_
    rintro x w5 ⟨rfl, b⟩
    replace KB : Hid (Below w.heap.size w w5) := bel_tr KB.out b
    replace KE : Hid (EdAt w5 w.heap.size ⟨k, p, t, c, l, n, ls⟩ a m q) := KE.out.below b
    clear b
    have b := bel_al w5 (.cells #[.int .i64 0, .string ⟨#[]⟩, .string ⟨#[]⟩, .int .i64 0, .int .i64 0, .int .i64 0, .slice none 0 0] 24)
    replace KB : Hid (Below w.heap.size w (w5.alloc (.cells #[.int .i64 0, .string ⟨#[]⟩, .string ⟨#[]⟩, .int .i64 0, .int .i64 0, .int .i64 0, .slice none 0 0] 24))) := bel_tr KB.out b
    replace KE : Hid (EdAt (w5.alloc (.cells #[.int .i64 0, .string ⟨#[]⟩, .string ⟨#[]⟩, .int .i64 0, .int .i64 0, .int .i64 0, .slice none 0 0] 24)) w.heap.size ⟨k, p, t, c, l, n, ls⟩ a m q) := KE.out.below b
    clear b
    have q0w5 := KE.out.c0
    have q1w5 := KE.out.c1
    have q2w5 := KE.out.c2
    have q3w5 := KE.out.c3
    have q4w5 := KE.out.c4
    have q5w5 := KE.out.c5
    have q6w5 := KE.out.c6
    simp only at q0w5 q1w5 q2w5 q3w5 q4w5 q5w5
    go_wp2_with fail
    refine (CR.out _ KB.out).mono ?_
    rintro x w6 ⟨rfl, b⟩
    clear q0w5 q1w5 q2w5 q3w5 q4w5 q5w5 q6w5
    replace KB : Hid (Below w.heap.size w w6) := bel_tr KB.out b
    replace KE : Hid (EdAt w6 w.heap.size ⟨k, p, t, c, l, n, ls⟩ a m q) := KE.out.below b
    clear b
    go_wp2_with fail
    refine (CB.out _).mono ?_
    rintro x w7 ⟨⟨ya, ym, yq, yg, rfl, hL⟩, b⟩
    replace KB : Hid (Below w.heap.size w w7) := bel_tr KB.out b
    have HN : Hid (Nm (w7.alloc (.cells #[.int .i64 k2, .string p2, .string t2, .int .i64 c2, .int .i64 l2, .int .i64 n2, .slice ya ym yq] 24)) ya ym ls2) := hL.nm.below (bel_al _ _)
    have HF : Hid (EdAt (w7.alloc (.cells #[.int .i64 k2, .string p2, .string t2, .int .i64 c2, .int .i64 l2, .int .i64 n2, .slice ya ym yq] 24)) w7.heap.size ⟨k2, p2, t2, c2, l2, n2, ls2⟩ ya ym yq) := EdAt.new w7 24 ⟨k2, p2, t2, c2, l2, n2, ls2⟩ ya ym yq
    clear b hL
    unfold edV
    simp only
    go_wp2_with fail
    refine (CF.out _ _ _ _ HN.out).mono ?_
    rintro x w8 ⟨rfl, b⟩
    have r0 := (HF.out.below b).c0
    have r1 := (HF.out.below b).c1
    have r2 := (HF.out.below b).c2
    have r3 := (HF.out.below b).c3
    have r4 := (HF.out.below b).c4
    have r5 := (HF.out.below b).c5
    have r6 := (HF.out.below b).c6
    simp only at r0 r1 r2 r3 r4 r5
    replace KB : Hid (Below w.heap.size w w8) := bel_tr KB.out (bel_tr (bel_al _ _) b)
    replace HN : Hid (Nm w8 ya ym ls2) := HN.out.below b
    clear b
    go_wp2_with (go_at_call 13; refine (CG.out _ _ _ _ HN.out).mono ?_; rintro x w9 ⟨rfl, b⟩)
    go_ret
    exact ⟨rfl, bel_tr KB.out b⟩

theorem walk (e0 : Ed) (a0 : Option Addr) (m0 c0 : Nat) (a1 : ByteArray) (a2 : Int) (W : World) (w0 : Nm W a0 m0 e0.ls) (w1 : a1.size ≤ maxLen) (w2 : (Lit.int .i64 a2).wf = true) :
    Calls Try.prog 4 #[edV e0 a0 m0 c0, .string a1, .int .i64 a2] W fun x w' => x = .returned (.bool true) ∧ Below W.heap.size W w' := by
  have hw := bounds_i64 w2
  by_cases hr : Rt e0
  · cases hd : decE a1 with
    | none => exact core10 W w0 a1 a2 hw.1 hw.2 w1 hr hd
    | some f => exact core11 W w0 a1 a2 hw.1 hw.2 w1 hr hd
  · cases hd : decE a1 with
    | none => exact core00 W w0 a1 a2 hw.1 hw.2 w1 hr hd
    | some f => exact core01 W w0 a1 a2 hw.1 hw.2 w1 hr hd

set_option maxRecDepth 100000 in
theorem lifted (os : Os) (started : os.Started) (H : Type) (enc : TypeId × Value → H) :
    ReturnsInHanded {} Try.checked os 4 .any (Rows.editBackSpec.pre6 enc Try.prog Try.f4 Rows.editBackRow.domain false) (Rows.editBackSpec.post enc Try.prog Try.f4 false true false false) := by
  refine returnsInHanded_of_change (C := Try.checked) own started (by kernel_rfl) Try.func4
    (ChangeSpec.witness6 (enc := enc) (C := Try.checked) false ⟨#[], #[.agg #[.int .i64 0, .string ByteArray.empty, .string ByteArray.empty, .int .i64 0, .int .i64 0, .int .i64 0, .slice none 0 0], .string ByteArray.empty, .int .i64 0], []⟩ 8 (by kernel_rfl) (by kernel_rfl) (by kernel_rfl) (by kernel_rfl)) ?_
  intro W base args ds gs before hval0 hW hcnd _
  have hval : ∀ (j : Nat) t v, Try.f4.params[j]? = some t → args[j]? = some v → Value.okWide Try.prog W .any base t v := hval0
  have hW' := hW
  obtain ⟨p, q, hA0, hV, rfl, hfz, hnd⟩ := hW
  have hA : DataW.TrodAll enc Try.prog W 0 (fun _ => true) true Try.f4.params.toList args.toList ds p := hA0
  rw [Try.params4] at hA hval
  obtain ⟨v0, vs0, d0, ds0, p0, q0, hargs, rfl, rfl, h0, r0⟩ := trodAll_cons hA
  obtain ⟨v1, vs1, d1, ds1, p1, q1, rfl, rfl, rfl, h1, r1⟩ := trodAll_cons r0
  obtain ⟨v2, vs2, d2, ds2, p2, q2, rfl, rfl, rfl, h2, r2⟩ := trodAll_cons r1
  obtain ⟨rfl, rfl, rfl⟩ := trodAll_nil r2
  obtain rfl : args = #[v0, v1, v2] := by cases args; simp_all
  obtain ⟨rfl, rfl⟩ := trodVars_none hV
  have k0 := h0
  have lt0 : ∀ x ∈ p0, x.block < W.heap.size := by obtain ⟨m, hm⟩ := k0; exact DataW.trod_lt m _ _ _ hm
  obtain ⟨e0, a0, m0, c0, rfl, w0⟩ := Edi.open_edit (hval 0 24 v0 rfl rfl) h0
  obtain ⟨a1, rfl, rfl, rfl, w1⟩ := open_string Try.underlying9 (hval 1 9 v1 rfl rfl) h1
  obtain ⟨a2, rfl, rfl, rfl, w2⟩ := open_int Try.underlying3 (hval 2 3 v2 rfl rfl) h2
  clear hA0 hval0
  refine (walk e0 a0 m0 c0 a1 a2 W w0 w1 w2).mono fun e W' ⟨he, bel⟩ => ?_
  subst he
  exact ⟨_, rfl, _, _, _, [], _, [], hW', trodAll_mk1 (shut_bool Try.underlying4 _), (trodAll_cons_mk (Below.trod laidOut (by kernel_rfl) (of_decide_eq_true (by kernel_rfl)) k0 bel lt0) (trodAll_cons_mk (shut_string Try.underlying9 w1) (trodAll_cons_mk (shut_int Try.underlying3 w2) trodAll_mk0))), rfl, bel.frame _, fun h => by cases h⟩

theorem over : Rows.editBackRow.holds Try.pinned (OpenSpec.ofChange Rows.editBackSpec) :=
  OpenClaim.holds_of_wide 4 Try.f4 rfl rfl rfl rfl rfl rfl rfl ⟨rfl, rfl, rfl, rfl, rfl⟩ rfl rfl rfl rfl rfl (by kernel_rfl) Try.func4 (by kernel_rfl)
    (of_decide_eq_true (by kernel_rfl)) (by unfold Func.isWrapper; first | (rw [if_pos (by decide +kernel)]; kernel_rfl) | (rw [if_neg (by decide +kernel)]; exact ⟨rfl, rfl⟩))
    (fun os started H enc _ => lifted os started H enc)
end Go.Proofs.Ytlinlbfiheoniaa.editBack

namespace Go.Proofs.Ytlinlbfiheoniaa
/-- The statement. -/
theorem editBack_holds : Rows.EditBackSaid := editBack.over
#print axioms editBack_holds
end Go.Proofs.Ytlinlbfiheoniaa
