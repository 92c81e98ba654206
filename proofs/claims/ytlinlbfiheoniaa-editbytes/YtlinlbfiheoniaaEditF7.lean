/- The contract of edit.Decode. -/
import Derived.Test.YtlinlbfiheoniaaEditF6
import Derived.Test.YtlinlbfiheoniaaEditF2
namespace Go.Proofs.Ytlinlbfiheoniaa.Edi
open Go.RowKit Go.Proofs.Ytlinlbfiheoniaa

/-- An edit that was read. -/
structure DecR (base : Nat) (E : Value) (e : Ed) (x : Ending) (w' : World) : Prop where
  ex : ∃ a m q g, x = .returned (.tuple #[edV e a m q, E]) ∧ NO base w' a m q e.ls g

theorem is_empty {r : ByteArray} {v : Bool} (h : decide (r.size = 0) = v) : r.toList.isEmpty = v := by
  rw [← h, Lib.toList_data]
  have hl : r.data.toList.length = r.size := Array.length_toList
  cases hd : r.data.toList with
  | nil => rw [hd] at hl; simp at hl; simp [← hl]
  | cons x y => rw [hd] at hl; simp at hl; simp [← hl]

set_option maxRecDepth 100000 in
set_option maxHeartbeats 4000000 in
theorem decode_no (s : ByteArray) (w : World) (hs : s.size ≤ maxLen) (h : decE s = none) :
    Calls Try.prog 11 #[.string s] w fun x w' => x = .returned (.tuple #[edV zeroE none 0 0, .int .i64 2]) ∧ Below w.heap.size w w' := by
  have KE : Hid (EdAt (w.alloc (.cells #[.int .i64 0, .string ⟨#[]⟩, .string ⟨#[]⟩, .int .i64 0, .int .i64 0, .int .i64 0, .slice none 0 0] 24)) w.heap.size zeroE none 0 0) := EdAt.new w 24 zeroE none 0 0
  have KB : Hid (Below w.heap.size w (w.alloc (.cells #[.int .i64 0, .string ⟨#[]⟩, .string ⟨#[]⟩, .int .i64 0, .int .i64 0, .int .i64 0, .slice none 0 0] 24))) := bel_al _ _
  have hst := run_store_str
  cases h1 : takeE s with
  | none =>
    have CT : Hid (∀ W, Calls Try.prog 21 #[.string s] W fun x w' => x = .returned (.tuple #[.agg #[.int .i64 0, .string ⟨#[]⟩, .string ⟨#[]⟩, .int .i64 0, .int .i64 0, .int .i64 0, .slice none 0 0], .string ⟨#[]⟩, .int .i64 2]) ∧ Below W.heap.size W w') := fun W => take_no s W hs h1
    clear h h1 hs
    go_enter Try.func11, Try.ntmps11
    go_wp2_with fail
    refine (CT.out _).mono ?_
    rintro x w1 ⟨rfl, b⟩
    replace KB : Hid (Below w.heap.size w w1) := bel_tr KB.out b
    replace KE : Hid (EdAt w1 w.heap.size zeroE none 0 0) := KE.out.below b
    clear b
    have b := bel_al w1 (.cells #[.int .i64 0, .string ⟨#[]⟩, .string ⟨#[]⟩, .int .i64 0, .int .i64 0, .int .i64 0, .slice none 0 0] 24)
    replace KB : Hid (Below w.heap.size w (w1.alloc (.cells #[.int .i64 0, .string ⟨#[]⟩, .string ⟨#[]⟩, .int .i64 0, .int .i64 0, .int .i64 0, .slice none 0 0] 24))) := bel_tr KB.out b
    replace KE : Hid (EdAt (w1.alloc (.cells #[.int .i64 0, .string ⟨#[]⟩, .string ⟨#[]⟩, .int .i64 0, .int .i64 0, .int .i64 0, .slice none 0 0] 24)) w.heap.size zeroE none 0 0) := KE.out.below b
    clear b
    have hE := KE.out
    have q0 := hE.c0
    have q1 := hE.c1
    have q2 := hE.c2
    have q3 := hE.c3
    have q4 := hE.c4
    have q5 := hE.c5
    have q6 := hE.c6
    have qf := hE.fr
    have hz := put7_at hE zeroE none 0 0
    unfold put7 zeroE at hz
    simp only at hz
    have HZ : Hid _ := hz
    have HX : Hid _ := bel_put KB.out (Nat.le_refl _) hz.2
    clear hz hE
    unfold zeroE at q0 q1 q2 q3 q4 q5
    simp only at q0 q1 q2 q3 q4 q5
    go_wp2
    have z0 := HZ.out.1.c0
    have z1 := HZ.out.1.c1
    have z2 := HZ.out.1.c2
    have z3 := HZ.out.1.c3
    have z4 := HZ.out.1.c4
    have z5 := HZ.out.1.c5
    have z6 := HZ.out.1.c6
    exact bodyPost_ret (v := .tuple #[edV zeroE none 0 0, .int .i64 2]) (by simp [results, edV, zeroE, Try.results11, go_sem, z0, z1, z2, z3, z4, z5, z6]) rfl ⟨rfl, HX.out⟩
  | some y =>
    obtain ⟨e, r⟩ := y
    have HY : Hid (takeE s = some (e, r)) := h1
    have CT : Hid (∀ W, Calls Try.prog 21 #[.string s] W fun x w' => TakeR W.heap.size e r x w' ∧ Below W.heap.size W w') := fun W => take_yes s r e W hs h1
    cases h2 : decide (r.size = 0) with
    | false =>
      have hem := is_empty h2
      obtain ⟨k, p, t, c, l, n, ls⟩ := e
      unfold edV at *
      clear h h1 hs h2
      go_enter Try.func11, Try.ntmps11
      go_wp2_with fail
      refine (CT.out _).mono ?_
      rintro x w1 ⟨⟨la, lm, lq, lg, rfl, hL⟩, b⟩
      replace KB : Hid (Below w.heap.size w w1) := bel_tr KB.out b
      replace KE : Hid (EdAt w1 w.heap.size zeroE none 0 0) := KE.out.below b
      clear b
      have b := bel_al w1 (.cells #[.int .i64 k, .string p, .string t, .int .i64 c, .int .i64 l, .int .i64 n, .slice la lm lq] 24)
      replace KB : Hid (Below w.heap.size w (w1.alloc (.cells #[.int .i64 k, .string p, .string t, .int .i64 c, .int .i64 l, .int .i64 n, .slice la lm lq] 24))) := bel_tr KB.out b
      replace KE : Hid (EdAt (w1.alloc (.cells #[.int .i64 k, .string p, .string t, .int .i64 c, .int .i64 l, .int .i64 n, .slice la lm lq] 24)) w.heap.size zeroE none 0 0) := KE.out.below b
      clear b
      clear hL
      unfold edV
      simp only
      have hE := KE.out
      have q0 := hE.c0
      have q1 := hE.c1
      have q2 := hE.c2
      have q3 := hE.c3
      have q4 := hE.c4
      have q5 := hE.c5
      have q6 := hE.c6
      have qf := hE.fr
      have hz := put7_at hE zeroE none 0 0
      unfold put7 zeroE at hz
      simp only at hz
      have HZ : Hid _ := hz
      have HX : Hid _ := bel_put KB.out (Nat.le_refl _) hz.2
      clear hz hE
      unfold zeroE at q0 q1 q2 q3 q4 q5
      simp only at q0 q1 q2 q3 q4 q5
      go_wp2
      have z0 := HZ.out.1.c0
      have z1 := HZ.out.1.c1
      have z2 := HZ.out.1.c2
      have z3 := HZ.out.1.c3
      have z4 := HZ.out.1.c4
      have z5 := HZ.out.1.c5
      have z6 := HZ.out.1.c6
      exact bodyPost_ret (v := .tuple #[edV zeroE none 0 0, .int .i64 2]) (by simp [results, edV, zeroE, Try.results11, go_sem, z0, z1, z2, z3, z4, z5, z6]) rfl ⟨rfl, HX.out⟩
    | true =>
      have hem := is_empty h2
      have hr : ¬ Rt e := fun hr => by rw [decE_yes h1 (of_decide_eq_true h2) hr] at h; cases h
      have CR : Hid (∀ W a m q, Nm W a m e.ls → Calls Try.prog 13 #[edV e a m q] W fun x w' => x = .returned (.bool false) ∧ Below W.heap.size W w') := fun W a m q hn => right_val hn false ⟨fun x => (by cases x), fun x => absurd x hr⟩
      obtain ⟨k, p, t, c, l, n, ls⟩ := e
      unfold edV at CR
      simp only at CR
      clear h h1 hs h2 hr
      go_enter Try.func11, Try.ntmps11
      go_wp2_with fail
      refine (CT.out _).mono ?_
      rintro x w1 ⟨⟨la, lm, lq, lg, rfl, hL⟩, b⟩
      replace KB : Hid (Below w.heap.size w w1) := bel_tr KB.out b
      replace KE : Hid (EdAt w1 w.heap.size zeroE none 0 0) := KE.out.below b
      clear b
      have b := bel_al w1 (.cells #[.int .i64 k, .string p, .string t, .int .i64 c, .int .i64 l, .int .i64 n, .slice la lm lq] 24)
      replace KB : Hid (Below w.heap.size w (w1.alloc (.cells #[.int .i64 k, .string p, .string t, .int .i64 c, .int .i64 l, .int .i64 n, .slice la lm lq] 24))) := bel_tr KB.out b
      replace KE : Hid (EdAt (w1.alloc (.cells #[.int .i64 k, .string p, .string t, .int .i64 c, .int .i64 l, .int .i64 n, .slice la lm lq] 24)) w.heap.size zeroE none 0 0) := KE.out.below b
      clear b
      have HN : Hid (Nm (w1.alloc (.cells #[.int .i64 k, .string p, .string t, .int .i64 c, .int .i64 l, .int .i64 n, .slice la lm lq] 24)) la lm ls) := hL.nm.below (bel_al _ _)
      clear hL
      unfold edV
      simp only
      go_wp2_with fail
      refine (CR.out _ _ _ _ HN.out).mono ?_
      rintro x w2 ⟨rfl, b⟩
      replace KB : Hid (Below w.heap.size w w2) := bel_tr KB.out b
      replace KE : Hid (EdAt w2 w.heap.size zeroE none 0 0) := KE.out.below b
      clear b
      have hE := KE.out
      have q0 := hE.c0
      have q1 := hE.c1
      have q2 := hE.c2
      have q3 := hE.c3
      have q4 := hE.c4
      have q5 := hE.c5
      have q6 := hE.c6
      have qf := hE.fr
      have hz := put7_at hE zeroE none 0 0
      unfold put7 zeroE at hz
      simp only at hz
      have HZ : Hid _ := hz
      have HX : Hid _ := bel_put KB.out (Nat.le_refl _) hz.2
      clear hz hE
      unfold zeroE at q0 q1 q2 q3 q4 q5
      simp only at q0 q1 q2 q3 q4 q5
      go_wp2
      have z0 := HZ.out.1.c0
      have z1 := HZ.out.1.c1
      have z2 := HZ.out.1.c2
      have z3 := HZ.out.1.c3
      have z4 := HZ.out.1.c4
      have z5 := HZ.out.1.c5
      have z6 := HZ.out.1.c6
      exact bodyPost_ret (v := .tuple #[edV zeroE none 0 0, .int .i64 2]) (by simp [results, edV, zeroE, Try.results11, go_sem, z0, z1, z2, z3, z4, z5, z6]) rfl ⟨rfl, HX.out⟩

set_option maxRecDepth 100000 in
set_option maxHeartbeats 4000000 in
theorem decode_yes (s : ByteArray) (e : Ed) (w : World) (hs : s.size ≤ maxLen) (h : decE s = some e) :
    Calls Try.prog 11 #[.string s] w fun x w' => DecR w.heap.size (.int .i64 0) e x w' ∧ Below w.heap.size w w' := by
  have KE : Hid (EdAt (w.alloc (.cells #[.int .i64 0, .string ⟨#[]⟩, .string ⟨#[]⟩, .int .i64 0, .int .i64 0, .int .i64 0, .slice none 0 0] 24)) w.heap.size zeroE none 0 0) := EdAt.new w 24 zeroE none 0 0
  have KB : Hid (Below w.heap.size w (w.alloc (.cells #[.int .i64 0, .string ⟨#[]⟩, .string ⟨#[]⟩, .int .i64 0, .int .i64 0, .int .i64 0, .slice none 0 0] 24))) := bel_al _ _
  have hst := run_store_str
  obtain ⟨r, h1, h2, hr⟩ := dec_parts h
  have CT : Hid (∀ W, Calls Try.prog 21 #[.string s] W fun x w' => TakeR W.heap.size e r x w' ∧ Below W.heap.size W w') := fun W => take_yes s r e W hs h1
  have hem := is_empty (decide_eq_true h2)
  have CR : Hid (∀ W a m q, Nm W a m e.ls → Calls Try.prog 13 #[edV e a m q] W fun x w' => x = .returned (.bool true) ∧ Below W.heap.size W w') := fun W a m q hn => right_val hn true ⟨fun _ => hr, fun _ => rfl⟩
  obtain ⟨k, p, t, c, l, n, ls⟩ := e
  unfold edV at CR
  simp only at CR
  clear h h1 hs h2 hr
  go_enter Try.func11, Try.ntmps11
  go_wp2_with fail
  refine (CT.out _).mono ?_
  rintro x w1 ⟨⟨la, lm, lq, lg, rfl, hL⟩, b⟩
  replace KB : Hid (Below w.heap.size w w1) := bel_tr KB.out b
  replace KE : Hid (EdAt w1 w.heap.size zeroE none 0 0) := KE.out.below b
  clear b
  have b := bel_al w1 (.cells #[.int .i64 k, .string p, .string t, .int .i64 c, .int .i64 l, .int .i64 n, .slice la lm lq] 24)
  replace KB : Hid (Below w.heap.size w (w1.alloc (.cells #[.int .i64 k, .string p, .string t, .int .i64 c, .int .i64 l, .int .i64 n, .slice la lm lq] 24))) := bel_tr KB.out b
  replace KE : Hid (EdAt (w1.alloc (.cells #[.int .i64 k, .string p, .string t, .int .i64 c, .int .i64 l, .int .i64 n, .slice la lm lq] 24)) w.heap.size zeroE none 0 0) := KE.out.below b
  clear b
  have HN : Hid (Nm (w1.alloc (.cells #[.int .i64 k, .string p, .string t, .int .i64 c, .int .i64 l, .int .i64 n, .slice la lm lq] 24)) la lm ls) := hL.nm.below (bel_al _ _)
  have HL : Hid (NO (w.heap.size + 1) (w1.alloc (.cells #[.int .i64 k, .string p, .string t, .int .i64 c, .int .i64 l, .int .i64 n, .slice la lm lq] 24)) la lm lq ls lg) := by
    have := hL.below (bel_al w1 (.cells #[.int .i64 k, .string p, .string t, .int .i64 c, .int .i64 l, .int .i64 n, .slice la lm lq] 24))
    rw [show (w.alloc (.cells #[.int .i64 0, .string ⟨#[]⟩, .string ⟨#[]⟩, .int .i64 0, .int .i64 0, .int .i64 0, .slice none 0 0] 24)).heap.size = w.heap.size + 1 by simp] at this
    exact this
  have HE : Hid (EdAt (w1.alloc (.cells #[.int .i64 k, .string p, .string t, .int .i64 c, .int .i64 l, .int .i64 n, .slice la lm lq] 24)) w1.heap.size ⟨k, p, t, c, l, n, ls⟩ la lm lq) := EdAt.new w1 24 ⟨k, p, t, c, l, n, ls⟩ la lm lq
  clear hL
  unfold edV
  simp only
  go_wp2_with fail
  refine (CR.out _ _ _ _ HN.out).mono ?_
  rintro x w2 ⟨rfl, b⟩
  replace HL : Hid (NO (w.heap.size + 1) w2 la lm lq ls lg) := HL.out.below b
  have hE1 := HE.out.below b
  have p0 := hE1.c0
  have p1 := hE1.c1
  have p2 := hE1.c2
  have p3 := hE1.c3
  have p4 := hE1.c4
  have p5 := hE1.c5
  have p6 := hE1.c6
  clear hE1 HE
  simp only at p0 p1 p2 p3 p4 p5
  replace KB : Hid (Below w.heap.size w w2) := bel_tr KB.out b
  replace KE : Hid (EdAt w2 w.heap.size zeroE none 0 0) := KE.out.below b
  clear b
  have hE := KE.out
  have q0 := hE.c0
  have q1 := hE.c1
  have q2 := hE.c2
  have q3 := hE.c3
  have q4 := hE.c4
  have q5 := hE.c5
  have q6 := hE.c6
  have qf := hE.fr
  have hz := put7_at hE ⟨k, p, t, c, l, n, ls⟩ la lm lq
  unfold put7 at hz
  simp only at hz
  have HZ : Hid _ := hz
  have HX : Hid _ := bel_put KB.out (Nat.le_refl _) hz.2
  have HNN : Hid _ := (HL.out.stay hz.2 (fun k' hk e => by have := (HL.out.own k' hk).2; omega)).mono (Nat.le_succ _)
  clear hz hE
  unfold zeroE at q0 q1 q2 q3 q4 q5
  simp only at q0 q1 q2 q3 q4 q5
  go_wp2
  have z0 := HZ.out.1.c0
  have z1 := HZ.out.1.c1
  have z2 := HZ.out.1.c2
  have z3 := HZ.out.1.c3
  have z4 := HZ.out.1.c4
  have z5 := HZ.out.1.c5
  have z6 := HZ.out.1.c6
  exact bodyPost_ret (v := .tuple #[edV ⟨k, p, t, c, l, n, ls⟩ la lm lq, .int .i64 0]) (by simp [results, edV, Try.results11, go_sem, z0, z1, z2, z3, z4, z5, z6]) rfl ⟨⟨_, _, _, _, rfl, HNN.out⟩, HX.out⟩

end Go.Proofs.Ytlinlbfiheoniaa.Edi
