/- EditSpoils: for every edit and every number: the statement's function returns true; nothing that was there is changed. No condition. -/
import Derived.Test.YtlinlbfiheoniaaEditL2
import Derived.Test.YtlinlbfiheoniaaEditOpen
namespace Go.Proofs.Ytlinlbfiheoniaa.editSpoils
open Go.ChangeShapes Go.WideShapes Go.ChangeAt Go.RowKit Go.Proofs.Ytlinlbfiheoniaa Go.Proofs.Ytlinlbfiheoniaa.Edi
set_option linter.unusedVariables false

theorem own : ownKnob Try.prog.godebug = none := by kernel_rfl

/-- Which thing is spoiled. -/
def spoilE (e : Ed) (D : Int) : Ed :=
  if D = 0 then { e with k := 11 } else if D = 1 then { e with c := 4 } else if D = 2 then { e with ls := e.ls ++ [-1] } else if D = 3 then { e with l := -1 } else { e with n := 9007199254740992 }

theorem spoil0 (e : Ed) : ¬ Rt { e with k := 11 } := fun h => by have := inB_iff.1 h.kind; simp at this
theorem spoil1 (e : Ed) : ¬ Rt { e with c := 4 } := fun h => by have := inB_iff.1 h.client; simp at this
theorem spoil2 (e : Ed) : ¬ Rt { e with ls := e.ls ++ [-1] } := fun h => by
  have := List.all_eq_true.1 h.each (-1) (by simp)
  have := inB_iff.1 this
  omega
theorem spoil3 (e : Ed) : ¬ Rt { e with l := -1 } := fun h => by have := inB_iff.1 h.call; simp at this
theorem spoil4 (e : Ed) : ¬ Rt { e with n := 9007199254740992 } := fun h => by
  have h1 := inB_iff.1 h.num
  have h2 := hiN_le e.k
  simp only at h1
  omega

set_option maxRecDepth 100000 in
set_option maxHeartbeats 4000000 in
theorem core_no {e : Ed} {a : Option Addr} {m q : Nat} (w : World) (h : Nm w a m e.ls) (how : Int) (hr : ¬ Rt e) :
    Calls Try.prog 6 #[edV e a m q, .int .i64 how] w fun x w' => x = .returned (.bool true) ∧ Below w.heap.size w w' := by
  have CR : Hid (∀ W, Below w.heap.size w W → Calls Try.prog 13 #[edV e a m q] W fun x w' => x = .returned (.bool false) ∧ Below W.heap.size W w') := fun W hb => right_val (h.below hb) false ⟨fun x => (by cases x), fun x => absurd x hr⟩
  have CE : Hid (∀ W, Below w.heap.size w W → Calls Try.prog 8 #[edV e a m q] W fun x w' => x = .returned (.tuple #[.string ⟨#[]⟩, .int .i64 1]) ∧ Below W.heap.size W w') := fun W hb => encode_no (h.below hb) hr
  obtain ⟨k, p, t, c, l, n, ls⟩ := e
  unfold edV at *
  simp only at CR CE
  have KE : Hid (EdAt (w.alloc (.cells #[.int .i64 k, .string p, .string t, .int .i64 c, .int .i64 l, .int .i64 n, .slice a m q] 24)) w.heap.size ⟨k, p, t, c, l, n, ls⟩ a m q) := EdAt.new w 24 ⟨k, p, t, c, l, n, ls⟩ a m q
  have KB : Hid (Below w.heap.size w (w.alloc (.cells #[.int .i64 k, .string p, .string t, .int .i64 c, .int .i64 l, .int .i64 n, .slice a m q] 24))) := bel_al _ _
  clear h hr
  go_enter Try.func6, Try.ntmps6
  go_wp2_with fail
  refine (examples_val _).mono ?_
  rintro x w1 ⟨rfl, b⟩
  replace KB : Hid (Below w.heap.size w w1) := bel_tr KB.out b
  replace KE : Hid (EdAt w1 w.heap.size ⟨k, p, t, c, l, n, ls⟩ a m q) := KE.out.below b
  clear b
  have q0w1 := KE.out.c0
  have q1w1 := KE.out.c1
  have q2w1 := KE.out.c2
  have q3w1 := KE.out.c3
  have q4w1 := KE.out.c4
  have q5w1 := KE.out.c5
  have q6w1 := KE.out.c6
  simp only at q0w1 q1w1 q2w1 q3w1 q4w1 q5w1
  go_wp2_with fail
  refine (CR.out _ KB.out).mono ?_
  rintro x w2 ⟨rfl, b⟩
  clear q0w1 q1w1 q2w1 q3w1 q4w1 q5w1 q6w1
  replace KB : Hid (Below w.heap.size w w2) := bel_tr KB.out b
  replace KE : Hid (EdAt w2 w.heap.size ⟨k, p, t, c, l, n, ls⟩ a m q) := KE.out.below b
  clear b
  have q0w2 := KE.out.c0
  have q1w2 := KE.out.c1
  have q2w2 := KE.out.c2
  have q3w2 := KE.out.c3
  have q4w2 := KE.out.c4
  have q5w2 := KE.out.c5
  have q6w2 := KE.out.c6
  simp only at q0w2 q1w2 q2w2 q3w2 q4w2 q5w2
  go_wp2_with fail
  refine (CE.out _ KB.out).mono ?_
  rintro x w3 ⟨rfl, b⟩
  clear q0w2 q1w2 q2w2 q3w2 q4w2 q5w2 q6w2
  replace KB : Hid (Below w.heap.size w w3) := bel_tr KB.out b
  replace KE : Hid (EdAt w3 w.heap.size ⟨k, p, t, c, l, n, ls⟩ a m q) := KE.out.below b
  clear b
  go_wp2
  go_ret
  exact ⟨rfl, KB.out⟩

theorem rem5 (a : Int) (h0 : -9223372036854775808 ≤ a) : ∃ Q : Int, (Q = 0 ∨ Q = 1 ∨ Q = 2 ∨ Q = 3 ∨ Q = 4) ∧ (a < 0 → -(a + 1).tmod 5 = Q) ∧ (¬ a < 0 → a.tmod 5 = Q) ∧ (¬ a < 0 → a % 5 = Q) := by
  by_cases h : a < 0
  · obtain ⟨b, hb⟩ : ∃ b : Nat, a + 1 = -(b : Int) := ⟨(-(a + 1)).toNat, by omega⟩
    refine ⟨((b % 5 : Nat) : Int), by omega, fun _ => ?_, fun x => absurd h x, fun x => absurd h x⟩
    rw [hb, Int.neg_tmod, Int.neg_neg, Int.tmod_eq_emod_of_nonneg (by omega)]; omega
  · refine ⟨a % 5, by omega, fun x => absurd x h, fun _ => ?_, fun _ => rfl⟩
    rw [Int.tmod_eq_emod_of_nonneg (by omega)]

set_option maxRecDepth 100000 in
set_option maxHeartbeats 8000000 in
theorem core_yes {e : Ed} {a : Option Addr} {m q : Nat} (w : World) (h : Nm w a m e.ls) (how : Int) (h0 : -9223372036854775808 ≤ how) (h1 : how ≤ 9223372036854775807) (hr : Rt e) :
    Calls Try.prog 6 #[edV e a m q, .int .i64 how] w fun x w' => x = .returned (.bool true) ∧ Below w.heap.size w w' := by
  obtain ⟨ti, hi1, hi2, hi3, hi4⟩ := intRow
  have CR : Hid (∀ W, Below w.heap.size w W → Calls Try.prog 13 #[edV e a m q] W fun x w' => x = .returned (.bool true) ∧ Below W.heap.size W w') := fun W hb => right_val (h.below hb) true ⟨fun _ => hr, fun _ => rfl⟩
  have hm8 : m ≤ 8 := by rw [← h.len]; exact hr.fit.few
  obtain ⟨k, p, t, c, l, n, ls⟩ := e
  have C0 : Hid (∀ W, Below w.heap.size w W → Calls Try.prog 13 #[.agg #[.int .i64 11, .string p, .string t, .int .i64 c, .int .i64 l, .int .i64 n, .slice a m q]] W fun x w' => x = .returned (.bool false) ∧ Below W.heap.size W w') := fun W hb => right_val (e := ⟨11, p, t, c, l, n, ls⟩) (h.below hb) false ⟨fun x => (by cases x), fun x => absurd x (spoil0 ⟨k, p, t, c, l, n, ls⟩)⟩
  have C1 : Hid (∀ W, Below w.heap.size w W → Calls Try.prog 13 #[.agg #[.int .i64 k, .string p, .string t, .int .i64 4, .int .i64 l, .int .i64 n, .slice a m q]] W fun x w' => x = .returned (.bool false) ∧ Below W.heap.size W w') := fun W hb => right_val (e := ⟨k, p, t, 4, l, n, ls⟩) (h.below hb) false ⟨fun x => (by cases x), fun x => absurd x (spoil1 ⟨k, p, t, c, l, n, ls⟩)⟩
  have C2 : Hid (∀ W b y z, Nm W b y (ls ++ [-1]) → Calls Try.prog 13 #[.agg #[.int .i64 k, .string p, .string t, .int .i64 c, .int .i64 l, .int .i64 n, .slice b y z]] W fun x w' => x = .returned (.bool false) ∧ Below W.heap.size W w') := fun W b y z hn => right_val (e := ⟨k, p, t, c, l, n, ls ++ [-1]⟩) hn false ⟨fun x => (by cases x), fun x => absurd x (spoil2 ⟨k, p, t, c, l, n, ls⟩)⟩
  have C3 : Hid (∀ W, Below w.heap.size w W → Calls Try.prog 13 #[.agg #[.int .i64 k, .string p, .string t, .int .i64 c, .int .i64 (-1), .int .i64 n, .slice a m q]] W fun x w' => x = .returned (.bool false) ∧ Below W.heap.size W w') := fun W hb => right_val (e := ⟨k, p, t, c, -1, n, ls⟩) (h.below hb) false ⟨fun x => (by cases x), fun x => absurd x (spoil3 ⟨k, p, t, c, l, n, ls⟩)⟩
  have C4 : Hid (∀ W, Below w.heap.size w W → Calls Try.prog 13 #[.agg #[.int .i64 k, .string p, .string t, .int .i64 c, .int .i64 l, .int .i64 9007199254740992, .slice a m q]] W fun x w' => x = .returned (.bool false) ∧ Below W.heap.size W w') := fun W hb => right_val (e := ⟨k, p, t, c, l, 9007199254740992, ls⟩) (h.below hb) false ⟨fun x => (by cases x), fun x => absurd x (spoil4 ⟨k, p, t, c, l, n, ls⟩)⟩
  have HN : Hid (∀ W, Below w.heap.size w W → Src Try.prog 1 22 (.slice a m q) m (rowC intC ls) W) := fun W hb => by rw [intC_row]; exact (h.below hb).src Try.underlying22
  have HLL : Hid (ls.length = m) := h.len
  unfold edV at *
  simp only at CR
  have KE : Hid (EdAt (w.alloc (.cells #[.int .i64 k, .string p, .string t, .int .i64 c, .int .i64 l, .int .i64 n, .slice a m q] 24)) w.heap.size ⟨k, p, t, c, l, n, ls⟩ a m q) := EdAt.new w 24 ⟨k, p, t, c, l, n, ls⟩ a m q
  have KB : Hid (Below w.heap.size w (w.alloc (.cells #[.int .i64 k, .string p, .string t, .int .i64 c, .int .i64 l, .int .i64 n, .slice a m q] 24))) := bel_al _ _
  obtain ⟨Q, hQ, d1, d2, d3⟩ := rem5 how h0
  clear h hr
  by_cases hneg : how < 0
  · have e1 := d1 hneg
    have hg : decide (how < 0) = true := decide_eq_true hneg
    clear d1 d2 d3
    rcases hQ with rfl | rfl | rfl | rfl | rfl
    · go_enter Try.func6, Try.ntmps6
      go_wp2_with fail
      refine (examples_val _).mono ?_
      rintro x w1 ⟨rfl, b⟩
      replace KB : Hid (Below w.heap.size w w1) := bel_tr KB.out b
      replace KE : Hid (EdAt w1 w.heap.size ⟨k, p, t, c, l, n, ls⟩ a m q) := KE.out.below b
      clear b
      have q0w1 := KE.out.c0
      have q1w1 := KE.out.c1
      have q2w1 := KE.out.c2
      have q3w1 := KE.out.c3
      have q4w1 := KE.out.c4
      have q5w1 := KE.out.c5
      have q6w1 := KE.out.c6
      simp only at q0w1 q1w1 q2w1 q3w1 q4w1 q5w1
      go_wp2_with fail
      refine (CR.out _ KB.out).mono ?_
      rintro x w2 ⟨rfl, b⟩
      clear q0w1 q1w1 q2w1 q3w1 q4w1 q5w1 q6w1
      replace KB : Hid (Below w.heap.size w w2) := bel_tr KB.out b
      replace KE : Hid (EdAt w2 w.heap.size ⟨k, p, t, c, l, n, ls⟩ a m q) := KE.out.below b
      clear b
      have q0w2 := KE.out.c0
      have q1w2 := KE.out.c1
      have q2w2 := KE.out.c2
      have q3w2 := KE.out.c3
      have q4w2 := KE.out.c4
      have q5w2 := KE.out.c5
      have q6w2 := KE.out.c6
      simp only at q0w2 q1w2 q2w2 q3w2 q4w2 q5w2
      go_wp2_with fail
      refine (C0.out _ (bel_tr KB.out (bel_al _ _))).mono ?_
      rintro x w3 ⟨rfl, b⟩
      replace KB : Hid (Below w.heap.size w w3) := bel_tr (bel_tr KB.out (bel_al _ _)) b
      clear b
      go_wp2
      go_ret
      exact ⟨rfl, KB.out⟩
    · go_enter Try.func6, Try.ntmps6
      go_wp2_with fail
      refine (examples_val _).mono ?_
      rintro x w1 ⟨rfl, b⟩
      replace KB : Hid (Below w.heap.size w w1) := bel_tr KB.out b
      replace KE : Hid (EdAt w1 w.heap.size ⟨k, p, t, c, l, n, ls⟩ a m q) := KE.out.below b
      clear b
      have q0w1 := KE.out.c0
      have q1w1 := KE.out.c1
      have q2w1 := KE.out.c2
      have q3w1 := KE.out.c3
      have q4w1 := KE.out.c4
      have q5w1 := KE.out.c5
      have q6w1 := KE.out.c6
      simp only at q0w1 q1w1 q2w1 q3w1 q4w1 q5w1
      go_wp2_with fail
      refine (CR.out _ KB.out).mono ?_
      rintro x w2 ⟨rfl, b⟩
      clear q0w1 q1w1 q2w1 q3w1 q4w1 q5w1 q6w1
      replace KB : Hid (Below w.heap.size w w2) := bel_tr KB.out b
      replace KE : Hid (EdAt w2 w.heap.size ⟨k, p, t, c, l, n, ls⟩ a m q) := KE.out.below b
      clear b
      have q0w2 := KE.out.c0
      have q1w2 := KE.out.c1
      have q2w2 := KE.out.c2
      have q3w2 := KE.out.c3
      have q4w2 := KE.out.c4
      have q5w2 := KE.out.c5
      have q6w2 := KE.out.c6
      simp only at q0w2 q1w2 q2w2 q3w2 q4w2 q5w2
      go_wp2_with fail
      refine (C1.out _ (bel_tr KB.out (bel_al _ _))).mono ?_
      rintro x w3 ⟨rfl, b⟩
      replace KB : Hid (Below w.heap.size w w3) := bel_tr (bel_tr KB.out (bel_al _ _)) b
      clear b
      go_wp2
      go_ret
      exact ⟨rfl, KB.out⟩
    · go_enter Try.func6, Try.ntmps6
      go_wp2_with fail
      refine (examples_val _).mono ?_
      rintro x w1 ⟨rfl, b⟩
      replace KB : Hid (Below w.heap.size w w1) := bel_tr KB.out b
      replace KE : Hid (EdAt w1 w.heap.size ⟨k, p, t, c, l, n, ls⟩ a m q) := KE.out.below b
      clear b
      have q0w1 := KE.out.c0
      have q1w1 := KE.out.c1
      have q2w1 := KE.out.c2
      have q3w1 := KE.out.c3
      have q4w1 := KE.out.c4
      have q5w1 := KE.out.c5
      have q6w1 := KE.out.c6
      simp only at q0w1 q1w1 q2w1 q3w1 q4w1 q5w1
      go_wp2_with fail
      refine (CR.out _ KB.out).mono ?_
      rintro x w2 ⟨rfl, b⟩
      clear q0w1 q1w1 q2w1 q3w1 q4w1 q5w1 q6w1
      replace KB : Hid (Below w.heap.size w w2) := bel_tr KB.out b
      replace KE : Hid (EdAt w2 w.heap.size ⟨k, p, t, c, l, n, ls⟩ a m q) := KE.out.below b
      clear b
      have q0w2 := KE.out.c0
      have q1w2 := KE.out.c1
      have q2w2 := KE.out.c2
      have q3w2 := KE.out.c3
      have q4w2 := KE.out.c4
      have q5w2 := KE.out.c5
      have q6w2 := KE.out.c6
      simp only at q0w2 q1w2 q2w2 q3w2 q4w2 q5w2
      have p6 := cell_al q6w2
      have KX : Hid (EdAt (w2.alloc (.cells #[.int .i64 k, .string p, .string t, .int .i64 c, .int .i64 l, .int .i64 n, .slice a m q] 24)) w2.heap.size ⟨k, p, t, c, l, n, ls⟩ a m q) := EdAt.new w2 24 ⟨k, p, t, c, l, n, ls⟩ a m q
      have SZ : Hid ((w2.alloc (.cells #[.int .i64 k, .string p, .string t, .int .i64 c, .int .i64 l, .int .i64 n, .slice a m q] 24)).heap.size = w2.heap.size + 1) := by show (_ : Nat) = _; simp
      have M1 : Hid True := trivial
      go_wp2_with (first
        | (at_builtin; have m1 := M1.out; refine wpList_append_cel _ rfl _ _ 22 22 rfl 3 ti _ 1 8 Try.underlying22 hi1 hi2 hi3 hi4 rfl (O := fun k => w2.heap.size + 1 ≤ k) _ 0 _ none rfl (NO.none (w2.heap.size + 1) _).cel _ m (rowC intC ls) rfl (HN.out _ (bel_tr KB.out (bel_al _ _))) (by unfold maxLen; omega) (by omega) ?_; intro a3 c3 w3 g3 hC3 hS3 hg3; have A3x := (NO.none (w2.heap.size + 1) (w2.alloc (.cells #[.int .i64 k, .string p, .string t, .int .i64 c, .int .i64 l, .int .i64 n, .slice a m q] 24))).app HLL.out hC3 (by rw [SZ.out]; omega); simp only [Nat.zero_add, List.nil_append] at A3x; have A3 : Hid _ := A3x; clear A3x; have B3 : Hid (Below (w2.alloc (.cells #[.int .i64 k, .string p, .string t, .int .i64 c, .int .i64 l, .int .i64 n, .slice a m q] 24)).heap.size (w2.alloc (.cells #[.int .i64 k, .string p, .string t, .int .i64 c, .int .i64 l, .int .i64 n, .slice a m q] 24)) w3) := (⟨hS3.os, hS3.tape, hS3.output, hS3.size, fun _ hk => hS3.block _ hk (fun e => nomatch e)⟩); clear hC3 hS3 hg3 m1 M1)
        | (at_builtin; refine wpList_append_cel _ rfl _ _ 22 22 rfl 3 ti _ 1 8 Try.underlying22 hi1 hi2 hi3 hi4 rfl (O := fun k => w2.heap.size + 1 ≤ k) _ m _ g3 rfl (A3.out.below (bel_al _ _)).cel _ 1 (rowC intC [-1]) rfl (src_int w3 (-1)) (by unfold maxLen; omega) (by omega) ?_; intro a4 c4 w4 g4 hC4 hS4 hg4; have A4 : Hid _ := (A3.out.below (bel_al _ _)).app (ys := [-1]) rfl hC4 (by have h3 := B3.out.size; rw [SZ.out] at h3; simp; omega); have S4 : Hid _ := hS4; have hX4 := ((KX.out.below B3.out).below (bel_al _ _)).keep hS4 (fun e => by have := (A3.out.own _ e).2; omega); have y0 := hX4.c0; have y1 := hX4.c1; have y2 := hX4.c2; have y3 := hX4.c3; have y4 := hX4.c4; have y5 := hX4.c5; have y6 := hX4.c6; have yf := hX4.fr; simp only at y0 y1 y2 y3 y4 y5; clear hX4 hC4 hS4 hg4)
        | (go_at_call 13; refine (C2.out _ _ _ _ (A4.out.stay (Stay.setCell (O := fun k => k = w2.heap.size) _ _ _ rfl) (fun k hk e => by have := (A4.out.own k hk).2; omega)).nm).mono ?_; rintro x w5 ⟨rfl, b⟩))
      go_ret
      have x1 : Below w.heap.size w (w3.alloc (.cells #[.int .i64 (-1)] 3)) := bel_tr KB.out (bel_tr (bel_tr (bel_al _ _) B3.out) (bel_al _ _))
      have x2 := x1.trans (S4.out.below x1.size (fun k hk => by have h1 := (A3.out.own k hk).2; have h2 := KB.out.size; omega))
      have x3 := x2.setCell (p := ⟨w2.heap.size, 6, none⟩) KB.out.size (.slice a4 (m + 1) c4)
      exact ⟨rfl, x3.trans (b.mono x3.size)⟩
    · go_enter Try.func6, Try.ntmps6
      go_wp2_with fail
      refine (examples_val _).mono ?_
      rintro x w1 ⟨rfl, b⟩
      replace KB : Hid (Below w.heap.size w w1) := bel_tr KB.out b
      replace KE : Hid (EdAt w1 w.heap.size ⟨k, p, t, c, l, n, ls⟩ a m q) := KE.out.below b
      clear b
      have q0w1 := KE.out.c0
      have q1w1 := KE.out.c1
      have q2w1 := KE.out.c2
      have q3w1 := KE.out.c3
      have q4w1 := KE.out.c4
      have q5w1 := KE.out.c5
      have q6w1 := KE.out.c6
      simp only at q0w1 q1w1 q2w1 q3w1 q4w1 q5w1
      go_wp2_with fail
      refine (CR.out _ KB.out).mono ?_
      rintro x w2 ⟨rfl, b⟩
      clear q0w1 q1w1 q2w1 q3w1 q4w1 q5w1 q6w1
      replace KB : Hid (Below w.heap.size w w2) := bel_tr KB.out b
      replace KE : Hid (EdAt w2 w.heap.size ⟨k, p, t, c, l, n, ls⟩ a m q) := KE.out.below b
      clear b
      have q0w2 := KE.out.c0
      have q1w2 := KE.out.c1
      have q2w2 := KE.out.c2
      have q3w2 := KE.out.c3
      have q4w2 := KE.out.c4
      have q5w2 := KE.out.c5
      have q6w2 := KE.out.c6
      simp only at q0w2 q1w2 q2w2 q3w2 q4w2 q5w2
      go_wp2_with fail
      refine (C3.out _ (bel_tr KB.out (bel_al _ _))).mono ?_
      rintro x w3 ⟨rfl, b⟩
      replace KB : Hid (Below w.heap.size w w3) := bel_tr (bel_tr KB.out (bel_al _ _)) b
      clear b
      go_wp2
      go_ret
      exact ⟨rfl, KB.out⟩
    · go_enter Try.func6, Try.ntmps6
      go_wp2_with fail
      refine (examples_val _).mono ?_
      rintro x w1 ⟨rfl, b⟩
      replace KB : Hid (Below w.heap.size w w1) := bel_tr KB.out b
      replace KE : Hid (EdAt w1 w.heap.size ⟨k, p, t, c, l, n, ls⟩ a m q) := KE.out.below b
      clear b
      have q0w1 := KE.out.c0
      have q1w1 := KE.out.c1
      have q2w1 := KE.out.c2
      have q3w1 := KE.out.c3
      have q4w1 := KE.out.c4
      have q5w1 := KE.out.c5
      have q6w1 := KE.out.c6
      simp only at q0w1 q1w1 q2w1 q3w1 q4w1 q5w1
      go_wp2_with fail
      refine (CR.out _ KB.out).mono ?_
      rintro x w2 ⟨rfl, b⟩
      clear q0w1 q1w1 q2w1 q3w1 q4w1 q5w1 q6w1
      replace KB : Hid (Below w.heap.size w w2) := bel_tr KB.out b
      replace KE : Hid (EdAt w2 w.heap.size ⟨k, p, t, c, l, n, ls⟩ a m q) := KE.out.below b
      clear b
      have q0w2 := KE.out.c0
      have q1w2 := KE.out.c1
      have q2w2 := KE.out.c2
      have q3w2 := KE.out.c3
      have q4w2 := KE.out.c4
      have q5w2 := KE.out.c5
      have q6w2 := KE.out.c6
      simp only at q0w2 q1w2 q2w2 q3w2 q4w2 q5w2
      go_wp2_with fail
      refine (C4.out _ (bel_tr KB.out (bel_al _ _))).mono ?_
      rintro x w3 ⟨rfl, b⟩
      replace KB : Hid (Below w.heap.size w w3) := bel_tr (bel_tr KB.out (bel_al _ _)) b
      clear b
      go_wp2
      go_ret
      exact ⟨rfl, KB.out⟩
  · have e1 := d2 hneg
    have e2 := d3 hneg
    have hg : decide (how < 0) = false := decide_eq_false hneg
    clear d1 d2 d3
    rcases hQ with rfl | rfl | rfl | rfl | rfl
    · go_enter Try.func6, Try.ntmps6
      go_wp2_with fail
      refine (examples_val _).mono ?_
      rintro x w1 ⟨rfl, b⟩
      replace KB : Hid (Below w.heap.size w w1) := bel_tr KB.out b
      replace KE : Hid (EdAt w1 w.heap.size ⟨k, p, t, c, l, n, ls⟩ a m q) := KE.out.below b
      clear b
      have q0w1 := KE.out.c0
      have q1w1 := KE.out.c1
      have q2w1 := KE.out.c2
      have q3w1 := KE.out.c3
      have q4w1 := KE.out.c4
      have q5w1 := KE.out.c5
      have q6w1 := KE.out.c6
      simp only at q0w1 q1w1 q2w1 q3w1 q4w1 q5w1
      go_wp2_with fail
      refine (CR.out _ KB.out).mono ?_
      rintro x w2 ⟨rfl, b⟩
      clear q0w1 q1w1 q2w1 q3w1 q4w1 q5w1 q6w1
      replace KB : Hid (Below w.heap.size w w2) := bel_tr KB.out b
      replace KE : Hid (EdAt w2 w.heap.size ⟨k, p, t, c, l, n, ls⟩ a m q) := KE.out.below b
      clear b
      have q0w2 := KE.out.c0
      have q1w2 := KE.out.c1
      have q2w2 := KE.out.c2
      have q3w2 := KE.out.c3
      have q4w2 := KE.out.c4
      have q5w2 := KE.out.c5
      have q6w2 := KE.out.c6
      simp only at q0w2 q1w2 q2w2 q3w2 q4w2 q5w2
      go_wp2_with fail
      refine (C0.out _ (bel_tr KB.out (bel_al _ _))).mono ?_
      rintro x w3 ⟨rfl, b⟩
      replace KB : Hid (Below w.heap.size w w3) := bel_tr (bel_tr KB.out (bel_al _ _)) b
      clear b
      go_wp2
      go_ret
      exact ⟨rfl, KB.out⟩
    · go_enter Try.func6, Try.ntmps6
      go_wp2_with fail
      refine (examples_val _).mono ?_
      rintro x w1 ⟨rfl, b⟩
      replace KB : Hid (Below w.heap.size w w1) := bel_tr KB.out b
      replace KE : Hid (EdAt w1 w.heap.size ⟨k, p, t, c, l, n, ls⟩ a m q) := KE.out.below b
      clear b
      have q0w1 := KE.out.c0
      have q1w1 := KE.out.c1
      have q2w1 := KE.out.c2
      have q3w1 := KE.out.c3
      have q4w1 := KE.out.c4
      have q5w1 := KE.out.c5
      have q6w1 := KE.out.c6
      simp only at q0w1 q1w1 q2w1 q3w1 q4w1 q5w1
      go_wp2_with fail
      refine (CR.out _ KB.out).mono ?_
      rintro x w2 ⟨rfl, b⟩
      clear q0w1 q1w1 q2w1 q3w1 q4w1 q5w1 q6w1
      replace KB : Hid (Below w.heap.size w w2) := bel_tr KB.out b
      replace KE : Hid (EdAt w2 w.heap.size ⟨k, p, t, c, l, n, ls⟩ a m q) := KE.out.below b
      clear b
      have q0w2 := KE.out.c0
      have q1w2 := KE.out.c1
      have q2w2 := KE.out.c2
      have q3w2 := KE.out.c3
      have q4w2 := KE.out.c4
      have q5w2 := KE.out.c5
      have q6w2 := KE.out.c6
      simp only at q0w2 q1w2 q2w2 q3w2 q4w2 q5w2
      go_wp2_with fail
      refine (C1.out _ (bel_tr KB.out (bel_al _ _))).mono ?_
      rintro x w3 ⟨rfl, b⟩
      replace KB : Hid (Below w.heap.size w w3) := bel_tr (bel_tr KB.out (bel_al _ _)) b
      clear b
      go_wp2
      go_ret
      exact ⟨rfl, KB.out⟩
    · go_enter Try.func6, Try.ntmps6
      go_wp2_with fail
      refine (examples_val _).mono ?_
      rintro x w1 ⟨rfl, b⟩
      replace KB : Hid (Below w.heap.size w w1) := bel_tr KB.out b
      replace KE : Hid (EdAt w1 w.heap.size ⟨k, p, t, c, l, n, ls⟩ a m q) := KE.out.below b
      clear b
      have q0w1 := KE.out.c0
      have q1w1 := KE.out.c1
      have q2w1 := KE.out.c2
      have q3w1 := KE.out.c3
      have q4w1 := KE.out.c4
      have q5w1 := KE.out.c5
      have q6w1 := KE.out.c6
      simp only at q0w1 q1w1 q2w1 q3w1 q4w1 q5w1
      go_wp2_with fail
      refine (CR.out _ KB.out).mono ?_
      rintro x w2 ⟨rfl, b⟩
      clear q0w1 q1w1 q2w1 q3w1 q4w1 q5w1 q6w1
      replace KB : Hid (Below w.heap.size w w2) := bel_tr KB.out b
      replace KE : Hid (EdAt w2 w.heap.size ⟨k, p, t, c, l, n, ls⟩ a m q) := KE.out.below b
      clear b
      have q0w2 := KE.out.c0
      have q1w2 := KE.out.c1
      have q2w2 := KE.out.c2
      have q3w2 := KE.out.c3
      have q4w2 := KE.out.c4
      have q5w2 := KE.out.c5
      have q6w2 := KE.out.c6
      simp only at q0w2 q1w2 q2w2 q3w2 q4w2 q5w2
      have p6 := cell_al q6w2
      have KX : Hid (EdAt (w2.alloc (.cells #[.int .i64 k, .string p, .string t, .int .i64 c, .int .i64 l, .int .i64 n, .slice a m q] 24)) w2.heap.size ⟨k, p, t, c, l, n, ls⟩ a m q) := EdAt.new w2 24 ⟨k, p, t, c, l, n, ls⟩ a m q
      have SZ : Hid ((w2.alloc (.cells #[.int .i64 k, .string p, .string t, .int .i64 c, .int .i64 l, .int .i64 n, .slice a m q] 24)).heap.size = w2.heap.size + 1) := by show (_ : Nat) = _; simp
      have M1 : Hid True := trivial
      go_wp2_with (first
        | (at_builtin; have m1 := M1.out; refine wpList_append_cel _ rfl _ _ 22 22 rfl 3 ti _ 1 8 Try.underlying22 hi1 hi2 hi3 hi4 rfl (O := fun k => w2.heap.size + 1 ≤ k) _ 0 _ none rfl (NO.none (w2.heap.size + 1) _).cel _ m (rowC intC ls) rfl (HN.out _ (bel_tr KB.out (bel_al _ _))) (by unfold maxLen; omega) (by omega) ?_; intro a3 c3 w3 g3 hC3 hS3 hg3; have A3x := (NO.none (w2.heap.size + 1) (w2.alloc (.cells #[.int .i64 k, .string p, .string t, .int .i64 c, .int .i64 l, .int .i64 n, .slice a m q] 24))).app HLL.out hC3 (by rw [SZ.out]; omega); simp only [Nat.zero_add, List.nil_append] at A3x; have A3 : Hid _ := A3x; clear A3x; have B3 : Hid (Below (w2.alloc (.cells #[.int .i64 k, .string p, .string t, .int .i64 c, .int .i64 l, .int .i64 n, .slice a m q] 24)).heap.size (w2.alloc (.cells #[.int .i64 k, .string p, .string t, .int .i64 c, .int .i64 l, .int .i64 n, .slice a m q] 24)) w3) := (⟨hS3.os, hS3.tape, hS3.output, hS3.size, fun _ hk => hS3.block _ hk (fun e => nomatch e)⟩); clear hC3 hS3 hg3 m1 M1)
        | (at_builtin; refine wpList_append_cel _ rfl _ _ 22 22 rfl 3 ti _ 1 8 Try.underlying22 hi1 hi2 hi3 hi4 rfl (O := fun k => w2.heap.size + 1 ≤ k) _ m _ g3 rfl (A3.out.below (bel_al _ _)).cel _ 1 (rowC intC [-1]) rfl (src_int w3 (-1)) (by unfold maxLen; omega) (by omega) ?_; intro a4 c4 w4 g4 hC4 hS4 hg4; have A4 : Hid _ := (A3.out.below (bel_al _ _)).app (ys := [-1]) rfl hC4 (by have h3 := B3.out.size; rw [SZ.out] at h3; simp; omega); have S4 : Hid _ := hS4; have hX4 := ((KX.out.below B3.out).below (bel_al _ _)).keep hS4 (fun e => by have := (A3.out.own _ e).2; omega); have y0 := hX4.c0; have y1 := hX4.c1; have y2 := hX4.c2; have y3 := hX4.c3; have y4 := hX4.c4; have y5 := hX4.c5; have y6 := hX4.c6; have yf := hX4.fr; simp only at y0 y1 y2 y3 y4 y5; clear hX4 hC4 hS4 hg4)
        | (go_at_call 13; refine (C2.out _ _ _ _ (A4.out.stay (Stay.setCell (O := fun k => k = w2.heap.size) _ _ _ rfl) (fun k hk e => by have := (A4.out.own k hk).2; omega)).nm).mono ?_; rintro x w5 ⟨rfl, b⟩))
      go_ret
      have x1 : Below w.heap.size w (w3.alloc (.cells #[.int .i64 (-1)] 3)) := bel_tr KB.out (bel_tr (bel_tr (bel_al _ _) B3.out) (bel_al _ _))
      have x2 := x1.trans (S4.out.below x1.size (fun k hk => by have h1 := (A3.out.own k hk).2; have h2 := KB.out.size; omega))
      have x3 := x2.setCell (p := ⟨w2.heap.size, 6, none⟩) KB.out.size (.slice a4 (m + 1) c4)
      exact ⟨rfl, x3.trans (b.mono x3.size)⟩
    · go_enter Try.func6, Try.ntmps6
      go_wp2_with fail
      refine (examples_val _).mono ?_
      rintro x w1 ⟨rfl, b⟩
      replace KB : Hid (Below w.heap.size w w1) := bel_tr KB.out b
      replace KE : Hid (EdAt w1 w.heap.size ⟨k, p, t, c, l, n, ls⟩ a m q) := KE.out.below b
      clear b
      have q0w1 := KE.out.c0
      have q1w1 := KE.out.c1
      have q2w1 := KE.out.c2
      have q3w1 := KE.out.c3
      have q4w1 := KE.out.c4
      have q5w1 := KE.out.c5
      have q6w1 := KE.out.c6
      simp only at q0w1 q1w1 q2w1 q3w1 q4w1 q5w1
      go_wp2_with fail
      refine (CR.out _ KB.out).mono ?_
      rintro x w2 ⟨rfl, b⟩
      clear q0w1 q1w1 q2w1 q3w1 q4w1 q5w1 q6w1
      replace KB : Hid (Below w.heap.size w w2) := bel_tr KB.out b
      replace KE : Hid (EdAt w2 w.heap.size ⟨k, p, t, c, l, n, ls⟩ a m q) := KE.out.below b
      clear b
      have q0w2 := KE.out.c0
      have q1w2 := KE.out.c1
      have q2w2 := KE.out.c2
      have q3w2 := KE.out.c3
      have q4w2 := KE.out.c4
      have q5w2 := KE.out.c5
      have q6w2 := KE.out.c6
      simp only at q0w2 q1w2 q2w2 q3w2 q4w2 q5w2
      go_wp2_with fail
      refine (C3.out _ (bel_tr KB.out (bel_al _ _))).mono ?_
      rintro x w3 ⟨rfl, b⟩
      replace KB : Hid (Below w.heap.size w w3) := bel_tr (bel_tr KB.out (bel_al _ _)) b
      clear b
      go_wp2
      go_ret
      exact ⟨rfl, KB.out⟩
    · go_enter Try.func6, Try.ntmps6
      go_wp2_with fail
      refine (examples_val _).mono ?_
      rintro x w1 ⟨rfl, b⟩
      replace KB : Hid (Below w.heap.size w w1) := bel_tr KB.out b
      replace KE : Hid (EdAt w1 w.heap.size ⟨k, p, t, c, l, n, ls⟩ a m q) := KE.out.below b
      clear b
      have q0w1 := KE.out.c0
      have q1w1 := KE.out.c1
      have q2w1 := KE.out.c2
      have q3w1 := KE.out.c3
      have q4w1 := KE.out.c4
      have q5w1 := KE.out.c5
      have q6w1 := KE.out.c6
      simp only at q0w1 q1w1 q2w1 q3w1 q4w1 q5w1
      go_wp2_with fail
      refine (CR.out _ KB.out).mono ?_
      rintro x w2 ⟨rfl, b⟩
      clear q0w1 q1w1 q2w1 q3w1 q4w1 q5w1 q6w1
      replace KB : Hid (Below w.heap.size w w2) := bel_tr KB.out b
      replace KE : Hid (EdAt w2 w.heap.size ⟨k, p, t, c, l, n, ls⟩ a m q) := KE.out.below b
      clear b
      have q0w2 := KE.out.c0
      have q1w2 := KE.out.c1
      have q2w2 := KE.out.c2
      have q3w2 := KE.out.c3
      have q4w2 := KE.out.c4
      have q5w2 := KE.out.c5
      have q6w2 := KE.out.c6
      simp only at q0w2 q1w2 q2w2 q3w2 q4w2 q5w2
      go_wp2_with fail
      refine (C4.out _ (bel_tr KB.out (bel_al _ _))).mono ?_
      rintro x w3 ⟨rfl, b⟩
      replace KB : Hid (Below w.heap.size w w3) := bel_tr (bel_tr KB.out (bel_al _ _)) b
      clear b
      go_wp2
      go_ret
      exact ⟨rfl, KB.out⟩

theorem walk (e0 : Ed) (a0 : Option Addr) (m0 c0 : Nat) (a1 : Int) (W : World) (w0 : Nm W a0 m0 e0.ls) (w1 : (Lit.int .i64 a1).wf = true) :
    Calls Try.prog 6 #[edV e0 a0 m0 c0, .int .i64 a1] W fun x w' => x = .returned (.bool true) ∧ Below W.heap.size W w' := by
  have hw : -9223372036854775808 ≤ a1 ∧ a1 ≤ 9223372036854775807 := by
    have h := w1
    simp [Lit.wf] at h
    exact h
  by_cases hr : Rt e0
  · exact core_yes W w0 a1 hw.1 hw.2 hr
  · exact core_no W w0 a1 hr

set_option maxRecDepth 100000 in
theorem lifted (os : Os) (started : os.Started) (H : Type) (enc : TypeId × Value → H) :
    ReturnsInHanded {} Try.checked os 6 .any (Rows.editSpoilsSpec.pre6 enc Try.prog Try.f6 Rows.editSpoilsRow.domain false) (Rows.editSpoilsSpec.post enc Try.prog Try.f6 false true false false) := by
  refine returnsInHanded_of_change (C := Try.checked) own started (by kernel_rfl) Try.func6
    (ChangeSpec.witness6 (enc := enc) (C := Try.checked) false ⟨#[], #[.agg #[.int .i64 0, .string ByteArray.empty, .string ByteArray.empty, .int .i64 0, .int .i64 0, .int .i64 0, .slice none 0 0], .int .i64 0], []⟩ 8 (by kernel_rfl) (by kernel_rfl) (by kernel_rfl) (by kernel_rfl)) ?_
  intro W base args ds gs before hval0 hW hcnd _
  have hval : ∀ (j : Nat) t v, Try.f6.params[j]? = some t → args[j]? = some v → Value.okWide Try.prog W .any base t v := hval0
  have hW' := hW
  obtain ⟨p, q, hA0, hV, rfl, hfz, hnd⟩ := hW
  have hA : DataW.TrodAll enc Try.prog W 0 (fun _ => true) true Try.f6.params.toList args.toList ds p := hA0
  rw [Try.params6] at hA hval
  obtain ⟨v0, vs0, d0, ds0, p0, q0, hargs, rfl, rfl, h0, r0⟩ := trodAll_cons hA
  obtain ⟨v1, vs1, d1, ds1, p1, q1, rfl, rfl, rfl, h1, r1⟩ := trodAll_cons r0
  obtain ⟨rfl, rfl, rfl⟩ := trodAll_nil r1
  obtain rfl : args = #[v0, v1] := by cases args; simp_all
  obtain ⟨rfl, rfl⟩ := trodVars_none hV
  have k0 := h0
  have lt0 : ∀ x ∈ p0, x.block < W.heap.size := by obtain ⟨m, hm⟩ := k0; exact DataW.trod_lt m _ _ _ hm
  obtain ⟨e0, a0, m0, c0, rfl, w0⟩ := Edi.open_edit (hval 0 24 v0 rfl rfl) h0
  obtain ⟨a1, rfl, rfl, rfl, w1⟩ := open_int Try.underlying3 (hval 1 3 v1 rfl rfl) h1
  clear hA0 hval0
  refine (walk e0 a0 m0 c0 a1 W w0 w1).mono fun e W' ⟨he, bel⟩ => ?_
  subst he
  exact ⟨_, rfl, _, _, _, [], _, [], hW', trodAll_mk1 (shut_bool Try.underlying4 _), (trodAll_cons_mk (Below.trod laidOut (by kernel_rfl) (of_decide_eq_true (by kernel_rfl)) k0 bel lt0) (trodAll_cons_mk (shut_int Try.underlying3 w1) trodAll_mk0)), rfl, bel.frame _, fun h => by cases h⟩

theorem over : Rows.editSpoilsRow.holds Try.pinned (OpenSpec.ofChange Rows.editSpoilsSpec) :=
  OpenClaim.holds_of_wide 6 Try.f6 rfl rfl rfl rfl rfl rfl rfl ⟨rfl, rfl, rfl, rfl, rfl⟩ rfl rfl rfl rfl rfl (by kernel_rfl) Try.func6 (by kernel_rfl)
    (of_decide_eq_true (by kernel_rfl)) (by unfold Func.isWrapper; first | (rw [if_pos (by decide +kernel)]; kernel_rfl) | (rw [if_neg (by decide +kernel)]; exact ⟨rfl, rfl⟩))
    (fun os started H enc _ => lifted os started H enc)
end Go.Proofs.Ytlinlbfiheoniaa.editSpoils

namespace Go.Proofs.Ytlinlbfiheoniaa
/-- The statement. -/
theorem editSpoils_holds : Rows.EditSpoilsSaid := editSpoils.over
#print axioms editSpoils_holds
end Go.Proofs.Ytlinlbfiheoniaa
