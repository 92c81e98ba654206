/- The contract of tabulariumref10.Decode. -/
import Derived.Test.YtlinlbfiheoniaaEditR2
import Derived.Test.YtlinlbfiheoniaaEditF7
namespace Go.Proofs.Ytlinlbfiheoniaa.Edi
open Go.RowKit Go.Proofs.Ytlinlbfiheoniaa

theorem refN_call {s r : ByteArray} {z : Int} (h : takeN s = some (z, r)) (w : World) (hs : s.size ≤ maxLen) :
    Calls Try.prog 19 #[.string s] w fun e w' => e = .returned (.tuple #[.int .i64 z, .string r, .bool true]) ∧ Below w.heap.size w w' := by
  obtain ⟨y, k, h1, h2, h3⟩ := takeN_yes h
  refine refTake_val s _ w hs ?_
  rw [refTakeV_yes h1, h2, h3]
theorem refN_call0 {s : ByteArray} (h : takeN s = none) (w : World) (hs : s.size ≤ maxLen) :
    Calls Try.prog 19 #[.string s] w fun e w' => e = .returned (.tuple #[.int .i64 0, .string ⟨#[]⟩, .bool false]) ∧ Below w.heap.size w w' :=
  refTake_val s _ w hs (refTakeV_no (takeN_no h))
theorem refN_none (w : World) : Calls Try.prog 19 #[.string ⟨#[]⟩] w fun e w' => e = .returned (.tuple #[.int .i64 0, .string ⟨#[]⟩, .bool false]) ∧ Below w.heap.size w w' :=
  refN_call0 takeN_empty w (by show 0 ≤ maxLen; omega)
theorem refT_none (w : World) : Calls Try.prog 20 #[.string ⟨#[]⟩] w fun e w' => e = .returned (.tuple #[.string ⟨#[]⟩, .string ⟨#[]⟩, .bool false]) ∧ Below w.heap.size w w' :=
  refTakeText_no ⟨#[]⟩ w (by show 0 ≤ maxLen; omega) takeT_empty

theorem set6_at {w : World} {b : Nat} {e : Ed} {a0 : Option Addr} {m0 q0 : Nat} (h : EdAt w b e a0 m0 q0) (ls : List Int) (a : Option Addr) (m q : Nat) : EdAt (w.setCell ⟨b, 6, none⟩ (.slice a m q)) b ⟨e.k, e.p, e.t, e.c, e.l, e.n, ls⟩ a m q :=
  ⟨(setC_other _ _ _ _ _ (by omega)).trans h.c0, (setC_other _ _ _ _ _ (by omega)).trans h.c1, (setC_other _ _ _ _ _ (by omega)).trans h.c2, (setC_other _ _ _ _ _ (by omega)).trans h.c3, (setC_other _ _ _ _ _ (by omega)).trans h.c4, (setC_other _ _ _ _ _ (by omega)).trans h.c5, setC_same h.c6, fun j => by rw [World.frozen?_setCell]; exact h.fr j⟩
theorem EdAt.as {w : World} {b : Nat} {e : Ed} {a : Option Addr} {m q : Nat} (h : EdAt w b e a m q) (ls : List Int) : EdAt w b ⟨e.k, e.p, e.t, e.c, e.l, e.n, ls⟩ a m q := ⟨h.c0, h.c1, h.c2, h.c3, h.c4, h.c5, h.c6, h.fr⟩

theorem zero_two (w : World) : EdAt ((w.alloc (.cells #[.int .i64 0, .string ⟨#[]⟩, .string ⟨#[]⟩, .int .i64 0, .int .i64 0, .int .i64 0, .slice none 0 0] 24)).alloc (.cells #[.int .i64 0, .string ⟨#[]⟩, .string ⟨#[]⟩, .int .i64 0, .int .i64 0, .int .i64 0, .slice none 0 0] 24)) w.heap.size zeroE none 0 0 ∧ EdAt ((w.alloc (.cells #[.int .i64 0, .string ⟨#[]⟩, .string ⟨#[]⟩, .int .i64 0, .int .i64 0, .int .i64 0, .slice none 0 0] 24)).alloc (.cells #[.int .i64 0, .string ⟨#[]⟩, .string ⟨#[]⟩, .int .i64 0, .int .i64 0, .int .i64 0, .slice none 0 0] 24)) (w.heap.size + 1) zeroE none 0 0 ∧ Below w.heap.size w ((w.alloc (.cells #[.int .i64 0, .string ⟨#[]⟩, .string ⟨#[]⟩, .int .i64 0, .int .i64 0, .int .i64 0, .slice none 0 0] 24)).alloc (.cells #[.int .i64 0, .string ⟨#[]⟩, .string ⟨#[]⟩, .int .i64 0, .int .i64 0, .int .i64 0, .slice none 0 0] 24)) := by
  refine ⟨(EdAt.new w 24 zeroE none 0 0).below (bel_al _ _), ?_, bel_tr (bel_al _ _) (bel_al _ _)⟩
  have := EdAt.new (w.alloc (.cells #[.int .i64 0, .string ⟨#[]⟩, .string ⟨#[]⟩, .int .i64 0, .int .i64 0, .int .i64 0, .slice none 0 0] 24)) 24 zeroE none 0 0
  rw [show (w.alloc (.cells #[.int .i64 0, .string ⟨#[]⟩, .string ⟨#[]⟩, .int .i64 0, .int .i64 0, .int .i64 0, .slice none 0 0] 24)).heap.size = w.heap.size + 1 by simp] at this
  exact this

set_option maxRecDepth 100000 in
set_option maxHeartbeats 8000000 in
theorem refDec_a (s : ByteArray) (w : World) (hs : s.size ≤ maxLen) (hm : ∀ s1 s2 s3 s4 s5 s6 s7 k p t c l n m, takeN s = some (k, s1) → takeT s1 = some (p, s2) → takeT s2 = some (t, s3) → takeN s3 = some (c, s4) → takeN s4 = some (l, s5) → takeN s5 = some (n, s6) → takeN s6 = some (m, s7) → inB 0 m 8 = false) :
    Calls Try.prog 10 #[.string s] w fun x w' => x = .returned (.tuple #[edV zeroE none 0 0, .bool false]) ∧ Below w.heap.size w w' := by
  have HS : Hid (s.size ≤ maxLen) := hs
  have KE : Hid (EdAt ((w.alloc (.cells #[.int .i64 0, .string ⟨#[]⟩, .string ⟨#[]⟩, .int .i64 0, .int .i64 0, .int .i64 0, .slice none 0 0] 24)).alloc (.cells #[.int .i64 0, .string ⟨#[]⟩, .string ⟨#[]⟩, .int .i64 0, .int .i64 0, .int .i64 0, .slice none 0 0] 24)) w.heap.size zeroE none 0 0) := (zero_two w).1
  have KT : Hid (EdAt ((w.alloc (.cells #[.int .i64 0, .string ⟨#[]⟩, .string ⟨#[]⟩, .int .i64 0, .int .i64 0, .int .i64 0, .slice none 0 0] 24)).alloc (.cells #[.int .i64 0, .string ⟨#[]⟩, .string ⟨#[]⟩, .int .i64 0, .int .i64 0, .int .i64 0, .slice none 0 0] 24)) (w.heap.size + 1) zeroE none 0 0) := (zero_two w).2.1
  have KB : Hid (Below w.heap.size w ((w.alloc (.cells #[.int .i64 0, .string ⟨#[]⟩, .string ⟨#[]⟩, .int .i64 0, .int .i64 0, .int .i64 0, .slice none 0 0] 24)).alloc (.cells #[.int .i64 0, .string ⟨#[]⟩, .string ⟨#[]⟩, .int .i64 0, .int .i64 0, .int .i64 0, .slice none 0 0] 24))) := (zero_two w).2.2
  have hst := run_store_str
  cases h1 : takeN s with
  | none =>
    have H1 : Hid (takeN s = none) := h1
    clear hm h1 hs
    go_enter Try.func10, Try.ntmps10
    go_wp2_with fail
    refine (refN_call0 H1.out _ HS.out).mono ?_
    rintro x w1 ⟨rfl, b⟩
    replace KB : Hid (Below w.heap.size w w1) := bel_tr KB.out b
    replace KE : Hid (EdAt w1 w.heap.size zeroE none 0 0) := KE.out.below b
    replace KT : Hid (EdAt w1 (w.heap.size + 1) zeroE none 0 0) := KT.out.below b
    clear b
    go_wp2_with fail
    refine (refT_none _).mono ?_
    rintro x w2 ⟨rfl, b⟩
    replace KB : Hid (Below w.heap.size w w2) := bel_tr KB.out b
    replace KE : Hid (EdAt w2 w.heap.size zeroE none 0 0) := KE.out.below b
    replace KT : Hid (EdAt w2 (w.heap.size + 1) zeroE none 0 0) := KT.out.below b
    clear b
    go_wp2_with fail
    refine (refT_none _).mono ?_
    rintro x w3 ⟨rfl, b⟩
    replace KB : Hid (Below w.heap.size w w3) := bel_tr KB.out b
    replace KE : Hid (EdAt w3 w.heap.size zeroE none 0 0) := KE.out.below b
    replace KT : Hid (EdAt w3 (w.heap.size + 1) zeroE none 0 0) := KT.out.below b
    clear b
    go_wp2_with fail
    refine (refN_none _).mono ?_
    rintro x w4 ⟨rfl, b⟩
    replace KB : Hid (Below w.heap.size w w4) := bel_tr KB.out b
    replace KE : Hid (EdAt w4 w.heap.size zeroE none 0 0) := KE.out.below b
    replace KT : Hid (EdAt w4 (w.heap.size + 1) zeroE none 0 0) := KT.out.below b
    clear b
    go_wp2_with fail
    refine (refN_none _).mono ?_
    rintro x w5 ⟨rfl, b⟩
    replace KB : Hid (Below w.heap.size w w5) := bel_tr KB.out b
    replace KE : Hid (EdAt w5 w.heap.size zeroE none 0 0) := KE.out.below b
    replace KT : Hid (EdAt w5 (w.heap.size + 1) zeroE none 0 0) := KT.out.below b
    clear b
    go_wp2_with fail
    refine (refN_none _).mono ?_
    rintro x w6 ⟨rfl, b⟩
    replace KB : Hid (Below w.heap.size w w6) := bel_tr KB.out b
    replace KE : Hid (EdAt w6 w.heap.size zeroE none 0 0) := KE.out.below b
    replace KT : Hid (EdAt w6 (w.heap.size + 1) zeroE none 0 0) := KT.out.below b
    clear b
    go_wp2_with fail
    refine (refN_none _).mono ?_
    rintro x w7 ⟨rfl, b⟩
    replace KB : Hid (Below w.heap.size w w7) := bel_tr KB.out b
    replace KE : Hid (EdAt w7 w.heap.size zeroE none 0 0) := KE.out.below b
    replace KT : Hid (EdAt w7 (w.heap.size + 1) zeroE none 0 0) := KT.out.below b
    clear b
    have hE := KE.out
    have q0 := hE.c0
    have q1 := hE.c1
    have q2 := hE.c2
    have q3 := hE.c3
    have q4 := hE.c4
    have q5 := hE.c5
    have q6 := hE.c6
    have qf := hE.fr
    have hz := put7_at hE zeroE none 0 0
    unfold put7 zeroE at hz
    simp only at hz
    have HZ : Hid _ := hz
    have HX : Hid _ := bel_put KB.out (Nat.le_refl _) hz.2
    clear hz hE
    unfold zeroE at q0 q1 q2 q3 q4 q5
    simp only at q0 q1 q2 q3 q4 q5
    go_wp2
    have z0 := HZ.out.1.c0
    have z1 := HZ.out.1.c1
    have z2 := HZ.out.1.c2
    have z3 := HZ.out.1.c3
    have z4 := HZ.out.1.c4
    have z5 := HZ.out.1.c5
    have z6 := HZ.out.1.c6
    exact bodyPost_ret (v := .tuple #[edV zeroE none 0 0, .bool false]) (by simp [results, edV, zeroE, Try.results10, go_sem, z0, z1, z2, z3, z4, z5, z6]) rfl ⟨rfl, HX.out⟩
  | some x =>
    obtain ⟨k, s1⟩ := x
    have H1 : Hid (takeN s = some (k, s1)) := h1
    have S1 : Hid (s1.size ≤ maxLen) := Nat.le_trans (takeN_size h1) HS.out
    cases h2 : takeT s1 with
    | none =>
      have H2 : Hid (takeT s1 = none) := h2
      clear hm h1 h2 hs
      go_enter Try.func10, Try.ntmps10
      go_wp2_with fail
      refine (refN_call H1.out _ HS.out).mono ?_
      rintro x w1 ⟨rfl, b⟩
      replace KB : Hid (Below w.heap.size w w1) := bel_tr KB.out b
      replace KE : Hid (EdAt w1 w.heap.size zeroE none 0 0) := KE.out.below b
      replace KT : Hid (EdAt w1 (w.heap.size + 1) zeroE none 0 0) := KT.out.below b
      clear b
      go_wp2_with fail
      refine (refTakeText_no s1 _ S1.out H2.out).mono ?_
      rintro x w2 ⟨rfl, b⟩
      replace KB : Hid (Below w.heap.size w w2) := bel_tr KB.out b
      replace KE : Hid (EdAt w2 w.heap.size zeroE none 0 0) := KE.out.below b
      replace KT : Hid (EdAt w2 (w.heap.size + 1) zeroE none 0 0) := KT.out.below b
      clear b
      go_wp2_with fail
      refine (refT_none _).mono ?_
      rintro x w3 ⟨rfl, b⟩
      replace KB : Hid (Below w.heap.size w w3) := bel_tr KB.out b
      replace KE : Hid (EdAt w3 w.heap.size zeroE none 0 0) := KE.out.below b
      replace KT : Hid (EdAt w3 (w.heap.size + 1) zeroE none 0 0) := KT.out.below b
      clear b
      go_wp2_with fail
      refine (refN_none _).mono ?_
      rintro x w4 ⟨rfl, b⟩
      replace KB : Hid (Below w.heap.size w w4) := bel_tr KB.out b
      replace KE : Hid (EdAt w4 w.heap.size zeroE none 0 0) := KE.out.below b
      replace KT : Hid (EdAt w4 (w.heap.size + 1) zeroE none 0 0) := KT.out.below b
      clear b
      go_wp2_with fail
      refine (refN_none _).mono ?_
      rintro x w5 ⟨rfl, b⟩
      replace KB : Hid (Below w.heap.size w w5) := bel_tr KB.out b
      replace KE : Hid (EdAt w5 w.heap.size zeroE none 0 0) := KE.out.below b
      replace KT : Hid (EdAt w5 (w.heap.size + 1) zeroE none 0 0) := KT.out.below b
      clear b
      go_wp2_with fail
      refine (refN_none _).mono ?_
      rintro x w6 ⟨rfl, b⟩
      replace KB : Hid (Below w.heap.size w w6) := bel_tr KB.out b
      replace KE : Hid (EdAt w6 w.heap.size zeroE none 0 0) := KE.out.below b
      replace KT : Hid (EdAt w6 (w.heap.size + 1) zeroE none 0 0) := KT.out.below b
      clear b
      go_wp2_with fail
      refine (refN_none _).mono ?_
      rintro x w7 ⟨rfl, b⟩
      replace KB : Hid (Below w.heap.size w w7) := bel_tr KB.out b
      replace KE : Hid (EdAt w7 w.heap.size zeroE none 0 0) := KE.out.below b
      replace KT : Hid (EdAt w7 (w.heap.size + 1) zeroE none 0 0) := KT.out.below b
      clear b
      have hE := KE.out
      have q0 := hE.c0
      have q1 := hE.c1
      have q2 := hE.c2
      have q3 := hE.c3
      have q4 := hE.c4
      have q5 := hE.c5
      have q6 := hE.c6
      have qf := hE.fr
      have hz := put7_at hE zeroE none 0 0
      unfold put7 zeroE at hz
      simp only at hz
      have HZ : Hid _ := hz
      have HX : Hid _ := bel_put KB.out (Nat.le_refl _) hz.2
      clear hz hE
      unfold zeroE at q0 q1 q2 q3 q4 q5
      simp only at q0 q1 q2 q3 q4 q5
      go_wp2
      have z0 := HZ.out.1.c0
      have z1 := HZ.out.1.c1
      have z2 := HZ.out.1.c2
      have z3 := HZ.out.1.c3
      have z4 := HZ.out.1.c4
      have z5 := HZ.out.1.c5
      have z6 := HZ.out.1.c6
      exact bodyPost_ret (v := .tuple #[edV zeroE none 0 0, .bool false]) (by simp [results, edV, zeroE, Try.results10, go_sem, z0, z1, z2, z3, z4, z5, z6]) rfl ⟨rfl, HX.out⟩
    | some x =>
      obtain ⟨p, s2⟩ := x
      have H2 : Hid (takeT s1 = some (p, s2)) := h2
      have S2 : Hid (s2.size ≤ maxLen) := Nat.le_trans (takeT_less h2) S1.out
      cases h3 : takeT s2 with
      | none =>
        have H3 : Hid (takeT s2 = none) := h3
        clear hm h1 h2 h3 hs
        go_enter Try.func10, Try.ntmps10
        go_wp2_with fail
        refine (refN_call H1.out _ HS.out).mono ?_
        rintro x w1 ⟨rfl, b⟩
        replace KB : Hid (Below w.heap.size w w1) := bel_tr KB.out b
        replace KE : Hid (EdAt w1 w.heap.size zeroE none 0 0) := KE.out.below b
        replace KT : Hid (EdAt w1 (w.heap.size + 1) zeroE none 0 0) := KT.out.below b
        clear b
        go_wp2_with fail
        refine (refTakeText_yes s1 p s2 _ S1.out H2.out).mono ?_
        rintro x w2 ⟨rfl, b⟩
        replace KB : Hid (Below w.heap.size w w2) := bel_tr KB.out b
        replace KE : Hid (EdAt w2 w.heap.size zeroE none 0 0) := KE.out.below b
        replace KT : Hid (EdAt w2 (w.heap.size + 1) zeroE none 0 0) := KT.out.below b
        clear b
        go_wp2_with fail
        refine (refTakeText_no s2 _ S2.out H3.out).mono ?_
        rintro x w3 ⟨rfl, b⟩
        replace KB : Hid (Below w.heap.size w w3) := bel_tr KB.out b
        replace KE : Hid (EdAt w3 w.heap.size zeroE none 0 0) := KE.out.below b
        replace KT : Hid (EdAt w3 (w.heap.size + 1) zeroE none 0 0) := KT.out.below b
        clear b
        go_wp2_with fail
        refine (refN_none _).mono ?_
        rintro x w4 ⟨rfl, b⟩
        replace KB : Hid (Below w.heap.size w w4) := bel_tr KB.out b
        replace KE : Hid (EdAt w4 w.heap.size zeroE none 0 0) := KE.out.below b
        replace KT : Hid (EdAt w4 (w.heap.size + 1) zeroE none 0 0) := KT.out.below b
        clear b
        go_wp2_with fail
        refine (refN_none _).mono ?_
        rintro x w5 ⟨rfl, b⟩
        replace KB : Hid (Below w.heap.size w w5) := bel_tr KB.out b
        replace KE : Hid (EdAt w5 w.heap.size zeroE none 0 0) := KE.out.below b
        replace KT : Hid (EdAt w5 (w.heap.size + 1) zeroE none 0 0) := KT.out.below b
        clear b
        go_wp2_with fail
        refine (refN_none _).mono ?_
        rintro x w6 ⟨rfl, b⟩
        replace KB : Hid (Below w.heap.size w w6) := bel_tr KB.out b
        replace KE : Hid (EdAt w6 w.heap.size zeroE none 0 0) := KE.out.below b
        replace KT : Hid (EdAt w6 (w.heap.size + 1) zeroE none 0 0) := KT.out.below b
        clear b
        go_wp2_with fail
        refine (refN_none _).mono ?_
        rintro x w7 ⟨rfl, b⟩
        replace KB : Hid (Below w.heap.size w w7) := bel_tr KB.out b
        replace KE : Hid (EdAt w7 w.heap.size zeroE none 0 0) := KE.out.below b
        replace KT : Hid (EdAt w7 (w.heap.size + 1) zeroE none 0 0) := KT.out.below b
        clear b
        have hE := KE.out
        have q0 := hE.c0
        have q1 := hE.c1
        have q2 := hE.c2
        have q3 := hE.c3
        have q4 := hE.c4
        have q5 := hE.c5
        have q6 := hE.c6
        have qf := hE.fr
        have hz := put7_at hE zeroE none 0 0
        unfold put7 zeroE at hz
        simp only at hz
        have HZ : Hid _ := hz
        have HX : Hid _ := bel_put KB.out (Nat.le_refl _) hz.2
        clear hz hE
        unfold zeroE at q0 q1 q2 q3 q4 q5
        simp only at q0 q1 q2 q3 q4 q5
        go_wp2
        have z0 := HZ.out.1.c0
        have z1 := HZ.out.1.c1
        have z2 := HZ.out.1.c2
        have z3 := HZ.out.1.c3
        have z4 := HZ.out.1.c4
        have z5 := HZ.out.1.c5
        have z6 := HZ.out.1.c6
        exact bodyPost_ret (v := .tuple #[edV zeroE none 0 0, .bool false]) (by simp [results, edV, zeroE, Try.results10, go_sem, z0, z1, z2, z3, z4, z5, z6]) rfl ⟨rfl, HX.out⟩
      | some x =>
        obtain ⟨t, s3⟩ := x
        have H3 : Hid (takeT s2 = some (t, s3)) := h3
        have S3 : Hid (s3.size ≤ maxLen) := Nat.le_trans (takeT_less h3) S2.out
        cases h4 : takeN s3 with
        | none =>
          have H4 : Hid (takeN s3 = none) := h4
          clear hm h1 h2 h3 h4 hs
          go_enter Try.func10, Try.ntmps10
          go_wp2_with fail
          refine (refN_call H1.out _ HS.out).mono ?_
          rintro x w1 ⟨rfl, b⟩
          replace KB : Hid (Below w.heap.size w w1) := bel_tr KB.out b
          replace KE : Hid (EdAt w1 w.heap.size zeroE none 0 0) := KE.out.below b
          replace KT : Hid (EdAt w1 (w.heap.size + 1) zeroE none 0 0) := KT.out.below b
          clear b
          go_wp2_with fail
          refine (refTakeText_yes s1 p s2 _ S1.out H2.out).mono ?_
          rintro x w2 ⟨rfl, b⟩
          replace KB : Hid (Below w.heap.size w w2) := bel_tr KB.out b
          replace KE : Hid (EdAt w2 w.heap.size zeroE none 0 0) := KE.out.below b
          replace KT : Hid (EdAt w2 (w.heap.size + 1) zeroE none 0 0) := KT.out.below b
          clear b
          go_wp2_with fail
          refine (refTakeText_yes s2 t s3 _ S2.out H3.out).mono ?_
          rintro x w3 ⟨rfl, b⟩
          replace KB : Hid (Below w.heap.size w w3) := bel_tr KB.out b
          replace KE : Hid (EdAt w3 w.heap.size zeroE none 0 0) := KE.out.below b
          replace KT : Hid (EdAt w3 (w.heap.size + 1) zeroE none 0 0) := KT.out.below b
          clear b
          go_wp2_with fail
          refine (refN_call0 H4.out _ S3.out).mono ?_
          rintro x w4 ⟨rfl, b⟩
          replace KB : Hid (Below w.heap.size w w4) := bel_tr KB.out b
          replace KE : Hid (EdAt w4 w.heap.size zeroE none 0 0) := KE.out.below b
          replace KT : Hid (EdAt w4 (w.heap.size + 1) zeroE none 0 0) := KT.out.below b
          clear b
          go_wp2_with fail
          refine (refN_none _).mono ?_
          rintro x w5 ⟨rfl, b⟩
          replace KB : Hid (Below w.heap.size w w5) := bel_tr KB.out b
          replace KE : Hid (EdAt w5 w.heap.size zeroE none 0 0) := KE.out.below b
          replace KT : Hid (EdAt w5 (w.heap.size + 1) zeroE none 0 0) := KT.out.below b
          clear b
          go_wp2_with fail
          refine (refN_none _).mono ?_
          rintro x w6 ⟨rfl, b⟩
          replace KB : Hid (Below w.heap.size w w6) := bel_tr KB.out b
          replace KE : Hid (EdAt w6 w.heap.size zeroE none 0 0) := KE.out.below b
          replace KT : Hid (EdAt w6 (w.heap.size + 1) zeroE none 0 0) := KT.out.below b
          clear b
          go_wp2_with fail
          refine (refN_none _).mono ?_
          rintro x w7 ⟨rfl, b⟩
          replace KB : Hid (Below w.heap.size w w7) := bel_tr KB.out b
          replace KE : Hid (EdAt w7 w.heap.size zeroE none 0 0) := KE.out.below b
          replace KT : Hid (EdAt w7 (w.heap.size + 1) zeroE none 0 0) := KT.out.below b
          clear b
          have hE := KE.out
          have q0 := hE.c0
          have q1 := hE.c1
          have q2 := hE.c2
          have q3 := hE.c3
          have q4 := hE.c4
          have q5 := hE.c5
          have q6 := hE.c6
          have qf := hE.fr
          have hz := put7_at hE zeroE none 0 0
          unfold put7 zeroE at hz
          simp only at hz
          have HZ : Hid _ := hz
          have HX : Hid _ := bel_put KB.out (Nat.le_refl _) hz.2
          clear hz hE
          unfold zeroE at q0 q1 q2 q3 q4 q5
          simp only at q0 q1 q2 q3 q4 q5
          go_wp2
          have z0 := HZ.out.1.c0
          have z1 := HZ.out.1.c1
          have z2 := HZ.out.1.c2
          have z3 := HZ.out.1.c3
          have z4 := HZ.out.1.c4
          have z5 := HZ.out.1.c5
          have z6 := HZ.out.1.c6
          exact bodyPost_ret (v := .tuple #[edV zeroE none 0 0, .bool false]) (by simp [results, edV, zeroE, Try.results10, go_sem, z0, z1, z2, z3, z4, z5, z6]) rfl ⟨rfl, HX.out⟩
        | some x =>
          obtain ⟨c, s4⟩ := x
          have H4 : Hid (takeN s3 = some (c, s4)) := h4
          have S4 : Hid (s4.size ≤ maxLen) := Nat.le_trans (takeN_size h4) S3.out
          cases h5 : takeN s4 with
          | none =>
            have H5 : Hid (takeN s4 = none) := h5
            clear hm h1 h2 h3 h4 h5 hs
            go_enter Try.func10, Try.ntmps10
            go_wp2_with fail
            refine (refN_call H1.out _ HS.out).mono ?_
            rintro x w1 ⟨rfl, b⟩
            replace KB : Hid (Below w.heap.size w w1) := bel_tr KB.out b
            replace KE : Hid (EdAt w1 w.heap.size zeroE none 0 0) := KE.out.below b
            replace KT : Hid (EdAt w1 (w.heap.size + 1) zeroE none 0 0) := KT.out.below b
            clear b
            go_wp2_with fail
            refine (refTakeText_yes s1 p s2 _ S1.out H2.out).mono ?_
            rintro x w2 ⟨rfl, b⟩
            replace KB : Hid (Below w.heap.size w w2) := bel_tr KB.out b
            replace KE : Hid (EdAt w2 w.heap.size zeroE none 0 0) := KE.out.below b
            replace KT : Hid (EdAt w2 (w.heap.size + 1) zeroE none 0 0) := KT.out.below b
            clear b
            go_wp2_with fail
            refine (refTakeText_yes s2 t s3 _ S2.out H3.out).mono ?_
            rintro x w3 ⟨rfl, b⟩
            replace KB : Hid (Below w.heap.size w w3) := bel_tr KB.out b
            replace KE : Hid (EdAt w3 w.heap.size zeroE none 0 0) := KE.out.below b
            replace KT : Hid (EdAt w3 (w.heap.size + 1) zeroE none 0 0) := KT.out.below b
            clear b
            go_wp2_with fail
            refine (refN_call H4.out _ S3.out).mono ?_
            rintro x w4 ⟨rfl, b⟩
            replace KB : Hid (Below w.heap.size w w4) := bel_tr KB.out b
            replace KE : Hid (EdAt w4 w.heap.size zeroE none 0 0) := KE.out.below b
            replace KT : Hid (EdAt w4 (w.heap.size + 1) zeroE none 0 0) := KT.out.below b
            clear b
            go_wp2_with fail
            refine (refN_call0 H5.out _ S4.out).mono ?_
            rintro x w5 ⟨rfl, b⟩
            replace KB : Hid (Below w.heap.size w w5) := bel_tr KB.out b
            replace KE : Hid (EdAt w5 w.heap.size zeroE none 0 0) := KE.out.below b
            replace KT : Hid (EdAt w5 (w.heap.size + 1) zeroE none 0 0) := KT.out.below b
            clear b
            go_wp2_with fail
            refine (refN_none _).mono ?_
            rintro x w6 ⟨rfl, b⟩
            replace KB : Hid (Below w.heap.size w w6) := bel_tr KB.out b
            replace KE : Hid (EdAt w6 w.heap.size zeroE none 0 0) := KE.out.below b
            replace KT : Hid (EdAt w6 (w.heap.size + 1) zeroE none 0 0) := KT.out.below b
            clear b
            go_wp2_with fail
            refine (refN_none _).mono ?_
            rintro x w7 ⟨rfl, b⟩
            replace KB : Hid (Below w.heap.size w w7) := bel_tr KB.out b
            replace KE : Hid (EdAt w7 w.heap.size zeroE none 0 0) := KE.out.below b
            replace KT : Hid (EdAt w7 (w.heap.size + 1) zeroE none 0 0) := KT.out.below b
            clear b
            have hE := KE.out
            have q0 := hE.c0
            have q1 := hE.c1
            have q2 := hE.c2
            have q3 := hE.c3
            have q4 := hE.c4
            have q5 := hE.c5
            have q6 := hE.c6
            have qf := hE.fr
            have hz := put7_at hE zeroE none 0 0
            unfold put7 zeroE at hz
            simp only at hz
            have HZ : Hid _ := hz
            have HX : Hid _ := bel_put KB.out (Nat.le_refl _) hz.2
            clear hz hE
            unfold zeroE at q0 q1 q2 q3 q4 q5
            simp only at q0 q1 q2 q3 q4 q5
            go_wp2
            have z0 := HZ.out.1.c0
            have z1 := HZ.out.1.c1
            have z2 := HZ.out.1.c2
            have z3 := HZ.out.1.c3
            have z4 := HZ.out.1.c4
            have z5 := HZ.out.1.c5
            have z6 := HZ.out.1.c6
            exact bodyPost_ret (v := .tuple #[edV zeroE none 0 0, .bool false]) (by simp [results, edV, zeroE, Try.results10, go_sem, z0, z1, z2, z3, z4, z5, z6]) rfl ⟨rfl, HX.out⟩
          | some x =>
            obtain ⟨l, s5⟩ := x
            have H5 : Hid (takeN s4 = some (l, s5)) := h5
            have S5 : Hid (s5.size ≤ maxLen) := Nat.le_trans (takeN_size h5) S4.out
            cases h6 : takeN s5 with
            | none =>
              have H6 : Hid (takeN s5 = none) := h6
              clear hm h1 h2 h3 h4 h5 h6 hs
              go_enter Try.func10, Try.ntmps10
              go_wp2_with fail
              refine (refN_call H1.out _ HS.out).mono ?_
              rintro x w1 ⟨rfl, b⟩
              replace KB : Hid (Below w.heap.size w w1) := bel_tr KB.out b
              replace KE : Hid (EdAt w1 w.heap.size zeroE none 0 0) := KE.out.below b
              replace KT : Hid (EdAt w1 (w.heap.size + 1) zeroE none 0 0) := KT.out.below b
              clear b
              go_wp2_with fail
              refine (refTakeText_yes s1 p s2 _ S1.out H2.out).mono ?_
              rintro x w2 ⟨rfl, b⟩
              replace KB : Hid (Below w.heap.size w w2) := bel_tr KB.out b
              replace KE : Hid (EdAt w2 w.heap.size zeroE none 0 0) := KE.out.below b
              replace KT : Hid (EdAt w2 (w.heap.size + 1) zeroE none 0 0) := KT.out.below b
              clear b
              go_wp2_with fail
              refine (refTakeText_yes s2 t s3 _ S2.out H3.out).mono ?_
              rintro x w3 ⟨rfl, b⟩
              replace KB : Hid (Below w.heap.size w w3) := bel_tr KB.out b
              replace KE : Hid (EdAt w3 w.heap.size zeroE none 0 0) := KE.out.below b
              replace KT : Hid (EdAt w3 (w.heap.size + 1) zeroE none 0 0) := KT.out.below b
              clear b
              go_wp2_with fail
              refine (refN_call H4.out _ S3.out).mono ?_
              rintro x w4 ⟨rfl, b⟩
              replace KB : Hid (Below w.heap.size w w4) := bel_tr KB.out b
              replace KE : Hid (EdAt w4 w.heap.size zeroE none 0 0) := KE.out.below b
              replace KT : Hid (EdAt w4 (w.heap.size + 1) zeroE none 0 0) := KT.out.below b
              clear b
              go_wp2_with fail
              refine (refN_call H5.out _ S4.out).mono ?_
              rintro x w5 ⟨rfl, b⟩
              replace KB : Hid (Below w.heap.size w w5) := bel_tr KB.out b
              replace KE : Hid (EdAt w5 w.heap.size zeroE none 0 0) := KE.out.below b
              replace KT : Hid (EdAt w5 (w.heap.size + 1) zeroE none 0 0) := KT.out.below b
              clear b
              go_wp2_with fail
              refine (refN_call0 H6.out _ S5.out).mono ?_
              rintro x w6 ⟨rfl, b⟩
              replace KB : Hid (Below w.heap.size w w6) := bel_tr KB.out b
              replace KE : Hid (EdAt w6 w.heap.size zeroE none 0 0) := KE.out.below b
              replace KT : Hid (EdAt w6 (w.heap.size + 1) zeroE none 0 0) := KT.out.below b
              clear b
              go_wp2_with fail
              refine (refN_none _).mono ?_
              rintro x w7 ⟨rfl, b⟩
              replace KB : Hid (Below w.heap.size w w7) := bel_tr KB.out b
              replace KE : Hid (EdAt w7 w.heap.size zeroE none 0 0) := KE.out.below b
              replace KT : Hid (EdAt w7 (w.heap.size + 1) zeroE none 0 0) := KT.out.below b
              clear b
              have hE := KE.out
              have q0 := hE.c0
              have q1 := hE.c1
              have q2 := hE.c2
              have q3 := hE.c3
              have q4 := hE.c4
              have q5 := hE.c5
              have q6 := hE.c6
              have qf := hE.fr
              have hz := put7_at hE zeroE none 0 0
              unfold put7 zeroE at hz
              simp only at hz
              have HZ : Hid _ := hz
              have HX : Hid _ := bel_put KB.out (Nat.le_refl _) hz.2
              clear hz hE
              unfold zeroE at q0 q1 q2 q3 q4 q5
              simp only at q0 q1 q2 q3 q4 q5
              go_wp2
              have z0 := HZ.out.1.c0
              have z1 := HZ.out.1.c1
              have z2 := HZ.out.1.c2
              have z3 := HZ.out.1.c3
              have z4 := HZ.out.1.c4
              have z5 := HZ.out.1.c5
              have z6 := HZ.out.1.c6
              exact bodyPost_ret (v := .tuple #[edV zeroE none 0 0, .bool false]) (by simp [results, edV, zeroE, Try.results10, go_sem, z0, z1, z2, z3, z4, z5, z6]) rfl ⟨rfl, HX.out⟩
            | some x =>
              obtain ⟨n, s6⟩ := x
              have H6 : Hid (takeN s5 = some (n, s6)) := h6
              have S6 : Hid (s6.size ≤ maxLen) := Nat.le_trans (takeN_size h6) S5.out
              cases h7 : takeN s6 with
              | none =>
                have H7 : Hid (takeN s6 = none) := h7
                clear hm h1 h2 h3 h4 h5 h6 h7 hs
                go_enter Try.func10, Try.ntmps10
                go_wp2_with fail
                refine (refN_call H1.out _ HS.out).mono ?_
                rintro x w1 ⟨rfl, b⟩
                replace KB : Hid (Below w.heap.size w w1) := bel_tr KB.out b
                replace KE : Hid (EdAt w1 w.heap.size zeroE none 0 0) := KE.out.below b
                replace KT : Hid (EdAt w1 (w.heap.size + 1) zeroE none 0 0) := KT.out.below b
                clear b
                go_wp2_with fail
                refine (refTakeText_yes s1 p s2 _ S1.out H2.out).mono ?_
                rintro x w2 ⟨rfl, b⟩
                replace KB : Hid (Below w.heap.size w w2) := bel_tr KB.out b
                replace KE : Hid (EdAt w2 w.heap.size zeroE none 0 0) := KE.out.below b
                replace KT : Hid (EdAt w2 (w.heap.size + 1) zeroE none 0 0) := KT.out.below b
                clear b
                go_wp2_with fail
                refine (refTakeText_yes s2 t s3 _ S2.out H3.out).mono ?_
                rintro x w3 ⟨rfl, b⟩
                replace KB : Hid (Below w.heap.size w w3) := bel_tr KB.out b
                replace KE : Hid (EdAt w3 w.heap.size zeroE none 0 0) := KE.out.below b
                replace KT : Hid (EdAt w3 (w.heap.size + 1) zeroE none 0 0) := KT.out.below b
                clear b
                go_wp2_with fail
                refine (refN_call H4.out _ S3.out).mono ?_
                rintro x w4 ⟨rfl, b⟩
                replace KB : Hid (Below w.heap.size w w4) := bel_tr KB.out b
                replace KE : Hid (EdAt w4 w.heap.size zeroE none 0 0) := KE.out.below b
                replace KT : Hid (EdAt w4 (w.heap.size + 1) zeroE none 0 0) := KT.out.below b
                clear b
                go_wp2_with fail
                refine (refN_call H5.out _ S4.out).mono ?_
                rintro x w5 ⟨rfl, b⟩
                replace KB : Hid (Below w.heap.size w w5) := bel_tr KB.out b
                replace KE : Hid (EdAt w5 w.heap.size zeroE none 0 0) := KE.out.below b
                replace KT : Hid (EdAt w5 (w.heap.size + 1) zeroE none 0 0) := KT.out.below b
                clear b
                go_wp2_with fail
                refine (refN_call H6.out _ S5.out).mono ?_
                rintro x w6 ⟨rfl, b⟩
                replace KB : Hid (Below w.heap.size w w6) := bel_tr KB.out b
                replace KE : Hid (EdAt w6 w.heap.size zeroE none 0 0) := KE.out.below b
                replace KT : Hid (EdAt w6 (w.heap.size + 1) zeroE none 0 0) := KT.out.below b
                clear b
                go_wp2_with fail
                refine (refN_call0 H7.out _ S6.out).mono ?_
                rintro x w7 ⟨rfl, b⟩
                replace KB : Hid (Below w.heap.size w w7) := bel_tr KB.out b
                replace KE : Hid (EdAt w7 w.heap.size zeroE none 0 0) := KE.out.below b
                replace KT : Hid (EdAt w7 (w.heap.size + 1) zeroE none 0 0) := KT.out.below b
                clear b
                have hE := KE.out
                have q0 := hE.c0
                have q1 := hE.c1
                have q2 := hE.c2
                have q3 := hE.c3
                have q4 := hE.c4
                have q5 := hE.c5
                have q6 := hE.c6
                have qf := hE.fr
                have hz := put7_at hE zeroE none 0 0
                unfold put7 zeroE at hz
                simp only at hz
                have HZ : Hid _ := hz
                have HX : Hid _ := bel_put KB.out (Nat.le_refl _) hz.2
                clear hz hE
                unfold zeroE at q0 q1 q2 q3 q4 q5
                simp only at q0 q1 q2 q3 q4 q5
                go_wp2
                have z0 := HZ.out.1.c0
                have z1 := HZ.out.1.c1
                have z2 := HZ.out.1.c2
                have z3 := HZ.out.1.c3
                have z4 := HZ.out.1.c4
                have z5 := HZ.out.1.c5
                have z6 := HZ.out.1.c6
                exact bodyPost_ret (v := .tuple #[edV zeroE none 0 0, .bool false]) (by simp [results, edV, zeroE, Try.results10, go_sem, z0, z1, z2, z3, z4, z5, z6]) rfl ⟨rfl, HX.out⟩
              | some x =>
                obtain ⟨m, s7⟩ := x
                have H7 : Hid (takeN s6 = some (m, s7)) := h7
                have S7 : Hid (s7.size ≤ maxLen) := Nat.le_trans (takeN_size h7) S6.out
                have hmm := hm _ _ _ _ _ _ _ _ _ _ _ _ _ _ h1 h2 h3 h4 h5 h6 h7
                clear hm h1 h2 h3 h4 h5 h6 h7 hs
                by_cases m0 : m < 0
                · have f0 : decide (m < 0) = true := decide_eq_true m0
                  clear hmm m0
                  go_enter Try.func10, Try.ntmps10
                  go_wp2_with fail
                  refine (refN_call H1.out _ HS.out).mono ?_
                  rintro x w1 ⟨rfl, b⟩
                  replace KB : Hid (Below w.heap.size w w1) := bel_tr KB.out b
                  replace KE : Hid (EdAt w1 w.heap.size zeroE none 0 0) := KE.out.below b
                  replace KT : Hid (EdAt w1 (w.heap.size + 1) zeroE none 0 0) := KT.out.below b
                  clear b
                  go_wp2_with fail
                  refine (refTakeText_yes s1 p s2 _ S1.out H2.out).mono ?_
                  rintro x w2 ⟨rfl, b⟩
                  replace KB : Hid (Below w.heap.size w w2) := bel_tr KB.out b
                  replace KE : Hid (EdAt w2 w.heap.size zeroE none 0 0) := KE.out.below b
                  replace KT : Hid (EdAt w2 (w.heap.size + 1) zeroE none 0 0) := KT.out.below b
                  clear b
                  go_wp2_with fail
                  refine (refTakeText_yes s2 t s3 _ S2.out H3.out).mono ?_
                  rintro x w3 ⟨rfl, b⟩
                  replace KB : Hid (Below w.heap.size w w3) := bel_tr KB.out b
                  replace KE : Hid (EdAt w3 w.heap.size zeroE none 0 0) := KE.out.below b
                  replace KT : Hid (EdAt w3 (w.heap.size + 1) zeroE none 0 0) := KT.out.below b
                  clear b
                  go_wp2_with fail
                  refine (refN_call H4.out _ S3.out).mono ?_
                  rintro x w4 ⟨rfl, b⟩
                  replace KB : Hid (Below w.heap.size w w4) := bel_tr KB.out b
                  replace KE : Hid (EdAt w4 w.heap.size zeroE none 0 0) := KE.out.below b
                  replace KT : Hid (EdAt w4 (w.heap.size + 1) zeroE none 0 0) := KT.out.below b
                  clear b
                  go_wp2_with fail
                  refine (refN_call H5.out _ S4.out).mono ?_
                  rintro x w5 ⟨rfl, b⟩
                  replace KB : Hid (Below w.heap.size w w5) := bel_tr KB.out b
                  replace KE : Hid (EdAt w5 w.heap.size zeroE none 0 0) := KE.out.below b
                  replace KT : Hid (EdAt w5 (w.heap.size + 1) zeroE none 0 0) := KT.out.below b
                  clear b
                  go_wp2_with fail
                  refine (refN_call H6.out _ S5.out).mono ?_
                  rintro x w6 ⟨rfl, b⟩
                  replace KB : Hid (Below w.heap.size w w6) := bel_tr KB.out b
                  replace KE : Hid (EdAt w6 w.heap.size zeroE none 0 0) := KE.out.below b
                  replace KT : Hid (EdAt w6 (w.heap.size + 1) zeroE none 0 0) := KT.out.below b
                  clear b
                  go_wp2_with fail
                  refine (refN_call H7.out _ S6.out).mono ?_
                  rintro x w7 ⟨rfl, b⟩
                  replace KB : Hid (Below w.heap.size w w7) := bel_tr KB.out b
                  replace KE : Hid (EdAt w7 w.heap.size zeroE none 0 0) := KE.out.below b
                  replace KT : Hid (EdAt w7 (w.heap.size + 1) zeroE none 0 0) := KT.out.below b
                  clear b
                  have hE := KE.out
                  have q0 := hE.c0
                  have q1 := hE.c1
                  have q2 := hE.c2
                  have q3 := hE.c3
                  have q4 := hE.c4
                  have q5 := hE.c5
                  have q6 := hE.c6
                  have qf := hE.fr
                  have hz := put7_at hE zeroE none 0 0
                  unfold put7 zeroE at hz
                  simp only at hz
                  have HZ : Hid _ := hz
                  have HX : Hid _ := bel_put KB.out (Nat.le_refl _) hz.2
                  clear hz hE
                  unfold zeroE at q0 q1 q2 q3 q4 q5
                  simp only at q0 q1 q2 q3 q4 q5
                  go_wp2
                  have z0 := HZ.out.1.c0
                  have z1 := HZ.out.1.c1
                  have z2 := HZ.out.1.c2
                  have z3 := HZ.out.1.c3
                  have z4 := HZ.out.1.c4
                  have z5 := HZ.out.1.c5
                  have z6 := HZ.out.1.c6
                  exact bodyPost_ret (v := .tuple #[edV zeroE none 0 0, .bool false]) (by simp [results, edV, zeroE, Try.results10, go_sem, z0, z1, z2, z3, z4, z5, z6]) rfl ⟨rfl, HX.out⟩
                · have m8 : 8 < m := by
                    rcases Int.lt_or_le 8 m with h | h
                    · exact h
                    · rw [inB_yes (by omega) h] at hmm; cases hmm
                  have f0 : decide (m < 0) = false := decide_eq_false m0
                  have f8 : decide (8 < m) = true := decide_eq_true m8
                  clear hmm m0 m8
                  go_enter Try.func10, Try.ntmps10
                  go_wp2_with fail
                  refine (refN_call H1.out _ HS.out).mono ?_
                  rintro x w1 ⟨rfl, b⟩
                  replace KB : Hid (Below w.heap.size w w1) := bel_tr KB.out b
                  replace KE : Hid (EdAt w1 w.heap.size zeroE none 0 0) := KE.out.below b
                  replace KT : Hid (EdAt w1 (w.heap.size + 1) zeroE none 0 0) := KT.out.below b
                  clear b
                  go_wp2_with fail
                  refine (refTakeText_yes s1 p s2 _ S1.out H2.out).mono ?_
                  rintro x w2 ⟨rfl, b⟩
                  replace KB : Hid (Below w.heap.size w w2) := bel_tr KB.out b
                  replace KE : Hid (EdAt w2 w.heap.size zeroE none 0 0) := KE.out.below b
                  replace KT : Hid (EdAt w2 (w.heap.size + 1) zeroE none 0 0) := KT.out.below b
                  clear b
                  go_wp2_with fail
                  refine (refTakeText_yes s2 t s3 _ S2.out H3.out).mono ?_
                  rintro x w3 ⟨rfl, b⟩
                  replace KB : Hid (Below w.heap.size w w3) := bel_tr KB.out b
                  replace KE : Hid (EdAt w3 w.heap.size zeroE none 0 0) := KE.out.below b
                  replace KT : Hid (EdAt w3 (w.heap.size + 1) zeroE none 0 0) := KT.out.below b
                  clear b
                  go_wp2_with fail
                  refine (refN_call H4.out _ S3.out).mono ?_
                  rintro x w4 ⟨rfl, b⟩
                  replace KB : Hid (Below w.heap.size w w4) := bel_tr KB.out b
                  replace KE : Hid (EdAt w4 w.heap.size zeroE none 0 0) := KE.out.below b
                  replace KT : Hid (EdAt w4 (w.heap.size + 1) zeroE none 0 0) := KT.out.below b
                  clear b
                  go_wp2_with fail
                  refine (refN_call H5.out _ S4.out).mono ?_
                  rintro x w5 ⟨rfl, b⟩
                  replace KB : Hid (Below w.heap.size w w5) := bel_tr KB.out b
                  replace KE : Hid (EdAt w5 w.heap.size zeroE none 0 0) := KE.out.below b
                  replace KT : Hid (EdAt w5 (w.heap.size + 1) zeroE none 0 0) := KT.out.below b
                  clear b
                  go_wp2_with fail
                  refine (refN_call H6.out _ S5.out).mono ?_
                  rintro x w6 ⟨rfl, b⟩
                  replace KB : Hid (Below w.heap.size w w6) := bel_tr KB.out b
                  replace KE : Hid (EdAt w6 w.heap.size zeroE none 0 0) := KE.out.below b
                  replace KT : Hid (EdAt w6 (w.heap.size + 1) zeroE none 0 0) := KT.out.below b
                  clear b
                  go_wp2_with fail
                  refine (refN_call H7.out _ S6.out).mono ?_
                  rintro x w7 ⟨rfl, b⟩
                  replace KB : Hid (Below w.heap.size w w7) := bel_tr KB.out b
                  replace KE : Hid (EdAt w7 w.heap.size zeroE none 0 0) := KE.out.below b
                  replace KT : Hid (EdAt w7 (w.heap.size + 1) zeroE none 0 0) := KT.out.below b
                  clear b
                  have hE := KE.out
                  have q0 := hE.c0
                  have q1 := hE.c1
                  have q2 := hE.c2
                  have q3 := hE.c3
                  have q4 := hE.c4
                  have q5 := hE.c5
                  have q6 := hE.c6
                  have qf := hE.fr
                  have hz := put7_at hE zeroE none 0 0
                  unfold put7 zeroE at hz
                  simp only at hz
                  have HZ : Hid _ := hz
                  have HX : Hid _ := bel_put KB.out (Nat.le_refl _) hz.2
                  clear hz hE
                  unfold zeroE at q0 q1 q2 q3 q4 q5
                  simp only at q0 q1 q2 q3 q4 q5
                  go_wp2
                  have z0 := HZ.out.1.c0
                  have z1 := HZ.out.1.c1
                  have z2 := HZ.out.1.c2
                  have z3 := HZ.out.1.c3
                  have z4 := HZ.out.1.c4
                  have z5 := HZ.out.1.c5
                  have z6 := HZ.out.1.c6
                  exact bodyPost_ret (v := .tuple #[edV zeroE none 0 0, .bool false]) (by simp [results, edV, zeroE, Try.results10, go_sem, z0, z1, z2, z3, z4, z5, z6]) rfl ⟨rfl, HX.out⟩

set_option maxRecDepth 100000 in
set_option maxHeartbeats 8000000 in
theorem refDec_b (s s1 s2 s3 s4 s5 s6 s7 p t : ByteArray) (k c l n : Int) (nn : Nat) (w : World) (hs : s.size ≤ maxLen) (h1 : takeN s = some (k, s1)) (h2 : takeT s1 = some (p, s2)) (h3 : takeT s2 = some (t, s3)) (h4 : takeN s3 = some (c, s4)) (h5 : takeN s4 = some (l, s5)) (h6 : takeN s5 = some (n, s6)) (h7 : takeN s6 = some ((nn : Int), s7)) (h8 : nn ≤ 8) (h9 : numsP nn s7 = none) :
    Calls Try.prog 10 #[.string s] w fun x w' => x = .returned (.tuple #[edV zeroE none 0 0, .bool false]) ∧ Below w.heap.size w w' := by
  obtain ⟨ti, hi1, hi2, hi3, hi4⟩ := intRow
  have HS : Hid (s.size ≤ maxLen) := hs
  have KE : Hid (EdAt ((w.alloc (.cells #[.int .i64 0, .string ⟨#[]⟩, .string ⟨#[]⟩, .int .i64 0, .int .i64 0, .int .i64 0, .slice none 0 0] 24)).alloc (.cells #[.int .i64 0, .string ⟨#[]⟩, .string ⟨#[]⟩, .int .i64 0, .int .i64 0, .int .i64 0, .slice none 0 0] 24)) w.heap.size zeroE none 0 0) := (zero_two w).1
  have KT : Hid (EdAt ((w.alloc (.cells #[.int .i64 0, .string ⟨#[]⟩, .string ⟨#[]⟩, .int .i64 0, .int .i64 0, .int .i64 0, .slice none 0 0] 24)).alloc (.cells #[.int .i64 0, .string ⟨#[]⟩, .string ⟨#[]⟩, .int .i64 0, .int .i64 0, .int .i64 0, .slice none 0 0] 24)) (w.heap.size + 1) zeroE none 0 0) := (zero_two w).2.1
  have KB : Hid (Below w.heap.size w ((w.alloc (.cells #[.int .i64 0, .string ⟨#[]⟩, .string ⟨#[]⟩, .int .i64 0, .int .i64 0, .int .i64 0, .slice none 0 0] 24)).alloc (.cells #[.int .i64 0, .string ⟨#[]⟩, .string ⟨#[]⟩, .int .i64 0, .int .i64 0, .int .i64 0, .slice none 0 0] 24))) := (zero_two w).2.2
  have hst := run_store_str
  have H1 : Hid (takeN s = some (k, s1)) := h1
  have S1 : Hid (s1.size ≤ maxLen) := Nat.le_trans (takeN_size h1) HS.out
  have H2 : Hid (takeT s1 = some (p, s2)) := h2
  have S2 : Hid (s2.size ≤ maxLen) := Nat.le_trans (takeT_less h2) S1.out
  have H3 : Hid (takeT s2 = some (t, s3)) := h3
  have S3 : Hid (s3.size ≤ maxLen) := Nat.le_trans (takeT_less h3) S2.out
  have H4 : Hid (takeN s3 = some (c, s4)) := h4
  have S4 : Hid (s4.size ≤ maxLen) := Nat.le_trans (takeN_size h4) S3.out
  have H5 : Hid (takeN s4 = some (l, s5)) := h5
  have S5 : Hid (s5.size ≤ maxLen) := Nat.le_trans (takeN_size h5) S4.out
  have H6 : Hid (takeN s5 = some (n, s6)) := h6
  have S6 : Hid (s6.size ≤ maxLen) := Nat.le_trans (takeN_size h6) S5.out
  have H7 : Hid (takeN s6 = some ((nn : Int), s7)) := h7
  have S7 : Hid (s7.size ≤ maxLen) := Nat.le_trans (takeN_size h7) S6.out
  have f0 : decide ((nn : Int) < 0) = false := decide_eq_false (by omega)
  have f8 : decide ((8 : Int) < (nn : Int)) = false := decide_eq_false (by omega)
  have HP : Hid (numsP nn s7 = none) := h9
  clear h1 h2 h3 h4 h5 h6 h7 h9 hs
  go_enter Try.func10, Try.ntmps10
  go_wp2_with fail
  refine (refN_call H1.out _ HS.out).mono ?_
  rintro x w1 ⟨rfl, b⟩
  replace KB : Hid (Below w.heap.size w w1) := bel_tr KB.out b
  replace KE : Hid (EdAt w1 w.heap.size zeroE none 0 0) := KE.out.below b
  replace KT : Hid (EdAt w1 (w.heap.size + 1) zeroE none 0 0) := KT.out.below b
  clear b
  go_wp2_with fail
  refine (refTakeText_yes s1 p s2 _ S1.out H2.out).mono ?_
  rintro x w2 ⟨rfl, b⟩
  replace KB : Hid (Below w.heap.size w w2) := bel_tr KB.out b
  replace KE : Hid (EdAt w2 w.heap.size zeroE none 0 0) := KE.out.below b
  replace KT : Hid (EdAt w2 (w.heap.size + 1) zeroE none 0 0) := KT.out.below b
  clear b
  go_wp2_with fail
  refine (refTakeText_yes s2 t s3 _ S2.out H3.out).mono ?_
  rintro x w3 ⟨rfl, b⟩
  replace KB : Hid (Below w.heap.size w w3) := bel_tr KB.out b
  replace KE : Hid (EdAt w3 w.heap.size zeroE none 0 0) := KE.out.below b
  replace KT : Hid (EdAt w3 (w.heap.size + 1) zeroE none 0 0) := KT.out.below b
  clear b
  go_wp2_with fail
  refine (refN_call H4.out _ S3.out).mono ?_
  rintro x w4 ⟨rfl, b⟩
  replace KB : Hid (Below w.heap.size w w4) := bel_tr KB.out b
  replace KE : Hid (EdAt w4 w.heap.size zeroE none 0 0) := KE.out.below b
  replace KT : Hid (EdAt w4 (w.heap.size + 1) zeroE none 0 0) := KT.out.below b
  clear b
  go_wp2_with fail
  refine (refN_call H5.out _ S4.out).mono ?_
  rintro x w5 ⟨rfl, b⟩
  replace KB : Hid (Below w.heap.size w w5) := bel_tr KB.out b
  replace KE : Hid (EdAt w5 w.heap.size zeroE none 0 0) := KE.out.below b
  replace KT : Hid (EdAt w5 (w.heap.size + 1) zeroE none 0 0) := KT.out.below b
  clear b
  go_wp2_with fail
  refine (refN_call H6.out _ S5.out).mono ?_
  rintro x w6 ⟨rfl, b⟩
  replace KB : Hid (Below w.heap.size w w6) := bel_tr KB.out b
  replace KE : Hid (EdAt w6 w.heap.size zeroE none 0 0) := KE.out.below b
  replace KT : Hid (EdAt w6 (w.heap.size + 1) zeroE none 0 0) := KT.out.below b
  clear b
  go_wp2_with fail
  refine (refN_call H7.out _ S6.out).mono ?_
  rintro x w7 ⟨rfl, b⟩
  replace KB : Hid (Below w.heap.size w w7) := bel_tr KB.out b
  replace KE : Hid (EdAt w7 w.heap.size zeroE none 0 0) := KE.out.below b
  replace KT : Hid (EdAt w7 (w.heap.size + 1) zeroE none 0 0) := KT.out.below b
  clear b
  have hT := KT.out
  have t0 := hT.c0
  have t1 := hT.c1
  have t2 := hT.c2
  have t3 := hT.c3
  have t4 := hT.c4
  have t5 := hT.c5
  have t6 := hT.c6
  have tf := hT.fr
  have hz := put7_at hT ⟨k, p, t, c, l, n, []⟩ none 0 0
  have hke := KE.out.keep hz.2 (fun e => by omega)
  have hkb := bel_put KB.out (Nat.le_succ _) hz.2
  unfold put7 at hz hke hkb
  simp only at hz
  have HZT : Hid _ := hz.1
  have HZE : Hid _ := hke
  have HZB : Hid _ := hkb
  clear hz hke hkb hT
  unfold zeroE at t0 t1 t2 t3 t4 t5
  simp only at t0 t1 t2 t3 t4 t5
  go_wp2
  clear t0 t1 t2 t3 t4 t5 t6 tf
  go_loopw [6, 20, 21, 22, 23] (fun v6 v20 _ _ _ wr => ∃ (i : Nat) (fa : Option Addr) (fc : Nat) (g : Option Nat) (rr : ByteArray) (acc : List Int), i ≤ nn ∧ v20 = .int .i64 i ∧ v6 = .string rr ∧ rr.size ≤ maxLen ∧ numsP nn s7 = (numsP (nn - i) rr).map (fun y => (acc ++ y.1, y.2)) ∧ EdAt wr (w.heap.size + 1) ⟨k, p, t, c, l, n, acc⟩ fa i fc ∧ EdAt wr w.heap.size zeroE none 0 0 ∧ NO (w.heap.size + 2) wr fa i fc acc g ∧ w.heap.size + 2 ≤ wr.heap.size ∧ Below w.heap.size w wr) (fun _ v20 _ _ _ _ => nn - (intOf v20).toNat)
  case atStart => exact ⟨0, none, 0, none, s7, [], by omega, rfl, rfl, S7.out, by simp, HZT.out, HZE.out, NO.none _ _, World.block_lt_of_cell? _ _ HZT.out.c0, HZB.out⟩
  case round =>
    obtain ⟨i, fa, fc, g, rr, acc, hil, rfl, rfl, hrr, hP, hT, hE, hO, hsz, hb⟩ := hrel
    have HB : Hid (Below w.heap.size w wr) := hb
    have HO : Hid (NO (w.heap.size + 2) wr fa i fc acc g) := hO
    have HRR : Hid (rr.size ≤ maxLen) := hrr
    have HPP : Hid (numsP nn s7 = (numsP (nn - i) rr).map (fun y => (acc ++ y.1, y.2))) := hP
    have HT : Hid (EdAt wr (w.heap.size + 1) ⟨k, p, t, c, l, n, acc⟩ fa i fc) := hT
    have HE : Hid (EdAt wr w.heap.size zeroE none 0 0) := hE
    have HSZ : Hid (w.heap.size + 2 ≤ wr.heap.size) := hsz
    clear hb hO hrr hP hT hE hsz HZT HZE HZB KB KE KT
    by_cases hlt : i < nn
    · cases hN : takeN rr with
      | none =>
        have HN : Hid (takeN rr = none) := hN
        clear hN HPP
        go_wp2_with fail
        refine (refN_call0 HN.out _ HRR.out).mono ?_
        rintro x w8 ⟨rfl, b⟩
        have KB : Hid (Below w.heap.size w w8) := bel_tr HB.out b
        have KE : Hid (EdAt w8 w.heap.size zeroE none 0 0) := HE.out.below b
        clear b
        have hE := KE.out
        have q0 := hE.c0
        have q1 := hE.c1
        have q2 := hE.c2
        have q3 := hE.c3
        have q4 := hE.c4
        have q5 := hE.c5
        have q6 := hE.c6
        have qf := hE.fr
        have hz := put7_at hE zeroE none 0 0
        unfold put7 zeroE at hz
        simp only at hz
        have HZ : Hid _ := hz
        have HX : Hid _ := bel_put KB.out (Nat.le_refl _) hz.2
        clear hz hE
        unfold zeroE at q0 q1 q2 q3 q4 q5
        simp only at q0 q1 q2 q3 q4 q5
        go_wp2
        have z0 := HZ.out.1.c0
        have z1 := HZ.out.1.c1
        have z2 := HZ.out.1.c2
        have z3 := HZ.out.1.c3
        have z4 := HZ.out.1.c4
        have z5 := HZ.out.1.c5
        have z6 := HZ.out.1.c6
        exact bodyPost_ret (v := .tuple #[edV zeroE none 0 0, .bool false]) (by simp [results, edV, zeroE, Try.results10, go_sem, z0, z1, z2, z3, z4, z5, z6]) rfl ⟨rfl, HX.out⟩
      | some x =>
        obtain ⟨z, rq⟩ := x
        have HN : Hid (takeN rr = some (z, rq)) := hN
        have HP2 : Hid (numsP nn s7 = (numsP (nn - (i + 1)) rq).map (fun y => ((acc ++ [z]) ++ y.1, y.2))) := nums_step hlt HPP.out hN
        have HQ : Hid (rq.size ≤ maxLen) := Nat.le_trans (takeN_size hN) HRR.out
        clear hN HPP
        go_wp2_with fail
        refine (refN_call HN.out _ HRR.out).mono ?_
        rintro x w8 ⟨rfl, b⟩
        replace HB : Hid (Below w.heap.size w w8) := bel_tr HB.out b
        replace HT : Hid (EdAt w8 (w.heap.size + 1) ⟨k, p, t, c, l, n, acc⟩ fa i fc) := HT.out.below b
        replace HE : Hid (EdAt w8 w.heap.size zeroE none 0 0) := HE.out.below b
        replace HO : Hid (NO (w.heap.size + 2) w8 fa i fc acc g) := HO.out.below b
        replace HSZ : Hid (w.heap.size + 2 ≤ w8.heap.size) := Nat.le_trans HSZ.out b.size
        have y6 := HT.out.c6
        clear b
        go_wp2_with (at_builtin; refine wpList_append_cel _ rfl _ _ 22 22 rfl 3 ti _ 1 8 Try.underlying22 hi1 hi2 hi3 hi4 rfl (O := fun k => w.heap.size + 2 ≤ k) _ i _ g rfl (HO.out.below (bel_al _ _)).cel _ 1 (rowC intC [z]) rfl (src_int w8 z) (by unfold maxLen; omega) (by omega) ?_; intro a2 c2 w9 g2 hC2 hS2 hg2; have A2 : Hid _ := (HO.out.below (bel_al _ _)).app (ys := [z]) rfl hC2 (by have := HSZ.out; simp; omega); have S2 : Hid _ := hS2; have hT9 := (HT.out.below (bel_al _ _)).keep hS2 (fun e => by have := (HO.out.own _ e).2; omega); have u6 := hT9.c6; have uf := hT9.fr; have HT9 : Hid _ := hT9; have HE9 : Hid _ := (HE.out.below (bel_al _ _)).keep hS2 (fun e => by have := (HO.out.own _ e).2; omega); have B9 : Hid _ := (HO.out.below (bel_al w8 (.cells #[.int .i64 z] 3))).appBelow hS2 (by have := HSZ.out; simp; omega); have Z9 : Hid _ := hS2.size; clear hC2 hS2 hg2 hT9)
        go_roundw
        case rel =>
          have hset := Stay.setCell (O := fun k => k = w.heap.size + 1) w9 ⟨w.heap.size + 1, 6, none⟩ (.slice a2 (i + 1) c2) rfl
          have hb9 : Below w.heap.size w w9 := (bel_tr HB.out (bel_al _ _)).trans (B9.out.mono (by omega))
          refine ⟨i + 1, a2, c2, g2, rq, acc ++ [z], by omega, by go_num, rfl, HQ.out, HP2.out, set6_at HT9.out _ _ _ _, HE9.out.keep hset (fun e => by omega), A2.out.stay hset (fun k hk e => by have := (A2.out.own k hk).2; omega), ?_, bel_put hb9 (Nat.le_succ _) hset⟩
          have h1 := Z9.out
          have h2 := HSZ.out
          simp at h1
          simp [World.setCell]
          omega
        case measure => simp [intOf]; omega
    · obtain rfl : i = nn := by omega
      have he := nums_end HPP.out
      rw [HP.out] at he
      cases he

set_option maxRecDepth 100000 in
set_option maxHeartbeats 8000000 in
theorem refDec_c (s s1 s2 s3 s4 s5 s6 s7 p t : ByteArray) (k c l n : Int) (nn : Nat) (w : World) (hs : s.size ≤ maxLen) (h1 : takeN s = some (k, s1)) (h2 : takeT s1 = some (p, s2)) (h3 : takeT s2 = some (t, s3)) (h4 : takeN s3 = some (c, s4)) (h5 : takeN s4 = some (l, s5)) (h6 : takeN s5 = some (n, s6)) (h7 : takeN s6 = some ((nn : Int), s7)) (h8 : nn ≤ 8) (ls : List Int) (r : ByteArray) (h9 : numsP nn s7 = some (ls, r)) (hr : ¬ Rt ⟨k, p, t, c, l, n, ls⟩) :
    Calls Try.prog 10 #[.string s] w fun x w' => x = .returned (.tuple #[edV zeroE none 0 0, .bool false]) ∧ Below w.heap.size w w' := by
  obtain ⟨ti, hi1, hi2, hi3, hi4⟩ := intRow
  have HS : Hid (s.size ≤ maxLen) := hs
  have KE : Hid (EdAt ((w.alloc (.cells #[.int .i64 0, .string ⟨#[]⟩, .string ⟨#[]⟩, .int .i64 0, .int .i64 0, .int .i64 0, .slice none 0 0] 24)).alloc (.cells #[.int .i64 0, .string ⟨#[]⟩, .string ⟨#[]⟩, .int .i64 0, .int .i64 0, .int .i64 0, .slice none 0 0] 24)) w.heap.size zeroE none 0 0) := (zero_two w).1
  have KT : Hid (EdAt ((w.alloc (.cells #[.int .i64 0, .string ⟨#[]⟩, .string ⟨#[]⟩, .int .i64 0, .int .i64 0, .int .i64 0, .slice none 0 0] 24)).alloc (.cells #[.int .i64 0, .string ⟨#[]⟩, .string ⟨#[]⟩, .int .i64 0, .int .i64 0, .int .i64 0, .slice none 0 0] 24)) (w.heap.size + 1) zeroE none 0 0) := (zero_two w).2.1
  have KB : Hid (Below w.heap.size w ((w.alloc (.cells #[.int .i64 0, .string ⟨#[]⟩, .string ⟨#[]⟩, .int .i64 0, .int .i64 0, .int .i64 0, .slice none 0 0] 24)).alloc (.cells #[.int .i64 0, .string ⟨#[]⟩, .string ⟨#[]⟩, .int .i64 0, .int .i64 0, .int .i64 0, .slice none 0 0] 24))) := (zero_two w).2.2
  have hst := run_store_str
  have H1 : Hid (takeN s = some (k, s1)) := h1
  have S1 : Hid (s1.size ≤ maxLen) := Nat.le_trans (takeN_size h1) HS.out
  have H2 : Hid (takeT s1 = some (p, s2)) := h2
  have S2 : Hid (s2.size ≤ maxLen) := Nat.le_trans (takeT_less h2) S1.out
  have H3 : Hid (takeT s2 = some (t, s3)) := h3
  have S3 : Hid (s3.size ≤ maxLen) := Nat.le_trans (takeT_less h3) S2.out
  have H4 : Hid (takeN s3 = some (c, s4)) := h4
  have S4 : Hid (s4.size ≤ maxLen) := Nat.le_trans (takeN_size h4) S3.out
  have H5 : Hid (takeN s4 = some (l, s5)) := h5
  have S5 : Hid (s5.size ≤ maxLen) := Nat.le_trans (takeN_size h5) S4.out
  have H6 : Hid (takeN s5 = some (n, s6)) := h6
  have S6 : Hid (s6.size ≤ maxLen) := Nat.le_trans (takeN_size h6) S5.out
  have H7 : Hid (takeN s6 = some ((nn : Int), s7)) := h7
  have S7 : Hid (s7.size ≤ maxLen) := Nat.le_trans (takeN_size h7) S6.out
  have f0 : decide ((nn : Int) < 0) = false := decide_eq_false (by omega)
  have f8 : decide ((8 : Int) < (nn : Int)) = false := decide_eq_false (by omega)
  have HP : Hid (numsP nn s7 = some (ls, r)) := h9
  have CR : Hid (∀ W a m q, Nm W a m ls → Calls Try.prog 14 #[.agg #[.int .i64 k, .string p, .string t, .int .i64 c, .int .i64 l, .int .i64 n, .slice a m q]] W fun x w' => x = .returned (.bool false) ∧ Below W.heap.size W w') := fun W a m q hn => refRight_val (e := ⟨k, p, t, c, l, n, ls⟩) hn false ⟨fun x => (by cases x), fun x => absurd x hr⟩
  clear h1 h2 h3 h4 h5 h6 h7 h9 hs hr
  go_enter Try.func10, Try.ntmps10
  go_wp2_with fail
  refine (refN_call H1.out _ HS.out).mono ?_
  rintro x w1 ⟨rfl, b⟩
  replace KB : Hid (Below w.heap.size w w1) := bel_tr KB.out b
  replace KE : Hid (EdAt w1 w.heap.size zeroE none 0 0) := KE.out.below b
  replace KT : Hid (EdAt w1 (w.heap.size + 1) zeroE none 0 0) := KT.out.below b
  clear b
  go_wp2_with fail
  refine (refTakeText_yes s1 p s2 _ S1.out H2.out).mono ?_
  rintro x w2 ⟨rfl, b⟩
  replace KB : Hid (Below w.heap.size w w2) := bel_tr KB.out b
  replace KE : Hid (EdAt w2 w.heap.size zeroE none 0 0) := KE.out.below b
  replace KT : Hid (EdAt w2 (w.heap.size + 1) zeroE none 0 0) := KT.out.below b
  clear b
  go_wp2_with fail
  refine (refTakeText_yes s2 t s3 _ S2.out H3.out).mono ?_
  rintro x w3 ⟨rfl, b⟩
  replace KB : Hid (Below w.heap.size w w3) := bel_tr KB.out b
  replace KE : Hid (EdAt w3 w.heap.size zeroE none 0 0) := KE.out.below b
  replace KT : Hid (EdAt w3 (w.heap.size + 1) zeroE none 0 0) := KT.out.below b
  clear b
  go_wp2_with fail
  refine (refN_call H4.out _ S3.out).mono ?_
  rintro x w4 ⟨rfl, b⟩
  replace KB : Hid (Below w.heap.size w w4) := bel_tr KB.out b
  replace KE : Hid (EdAt w4 w.heap.size zeroE none 0 0) := KE.out.below b
  replace KT : Hid (EdAt w4 (w.heap.size + 1) zeroE none 0 0) := KT.out.below b
  clear b
  go_wp2_with fail
  refine (refN_call H5.out _ S4.out).mono ?_
  rintro x w5 ⟨rfl, b⟩
  replace KB : Hid (Below w.heap.size w w5) := bel_tr KB.out b
  replace KE : Hid (EdAt w5 w.heap.size zeroE none 0 0) := KE.out.below b
  replace KT : Hid (EdAt w5 (w.heap.size + 1) zeroE none 0 0) := KT.out.below b
  clear b
  go_wp2_with fail
  refine (refN_call H6.out _ S5.out).mono ?_
  rintro x w6 ⟨rfl, b⟩
  replace KB : Hid (Below w.heap.size w w6) := bel_tr KB.out b
  replace KE : Hid (EdAt w6 w.heap.size zeroE none 0 0) := KE.out.below b
  replace KT : Hid (EdAt w6 (w.heap.size + 1) zeroE none 0 0) := KT.out.below b
  clear b
  go_wp2_with fail
  refine (refN_call H7.out _ S6.out).mono ?_
  rintro x w7 ⟨rfl, b⟩
  replace KB : Hid (Below w.heap.size w w7) := bel_tr KB.out b
  replace KE : Hid (EdAt w7 w.heap.size zeroE none 0 0) := KE.out.below b
  replace KT : Hid (EdAt w7 (w.heap.size + 1) zeroE none 0 0) := KT.out.below b
  clear b
  have hT := KT.out
  have t0 := hT.c0
  have t1 := hT.c1
  have t2 := hT.c2
  have t3 := hT.c3
  have t4 := hT.c4
  have t5 := hT.c5
  have t6 := hT.c6
  have tf := hT.fr
  have hz := put7_at hT ⟨k, p, t, c, l, n, []⟩ none 0 0
  have hke := KE.out.keep hz.2 (fun e => by omega)
  have hkb := bel_put KB.out (Nat.le_succ _) hz.2
  unfold put7 at hz hke hkb
  simp only at hz
  have HZT : Hid _ := hz.1
  have HZE : Hid _ := hke
  have HZB : Hid _ := hkb
  clear hz hke hkb hT
  unfold zeroE at t0 t1 t2 t3 t4 t5
  simp only at t0 t1 t2 t3 t4 t5
  go_wp2
  clear t0 t1 t2 t3 t4 t5 t6 tf
  go_loopw [6, 20, 21, 22, 23] (fun v6 v20 _ _ _ wr => ∃ (i : Nat) (fa : Option Addr) (fc : Nat) (g : Option Nat) (rr : ByteArray) (acc : List Int), i ≤ nn ∧ v20 = .int .i64 i ∧ v6 = .string rr ∧ rr.size ≤ maxLen ∧ numsP nn s7 = (numsP (nn - i) rr).map (fun y => (acc ++ y.1, y.2)) ∧ EdAt wr (w.heap.size + 1) ⟨k, p, t, c, l, n, acc⟩ fa i fc ∧ EdAt wr w.heap.size zeroE none 0 0 ∧ NO (w.heap.size + 2) wr fa i fc acc g ∧ w.heap.size + 2 ≤ wr.heap.size ∧ Below w.heap.size w wr) (fun _ v20 _ _ _ _ => nn - (intOf v20).toNat)
  case atStart => exact ⟨0, none, 0, none, s7, [], by omega, rfl, rfl, S7.out, by simp, HZT.out, HZE.out, NO.none _ _, World.block_lt_of_cell? _ _ HZT.out.c0, HZB.out⟩
  case round =>
    obtain ⟨i, fa, fc, g, rr, acc, hil, rfl, rfl, hrr, hP, hT, hE, hO, hsz, hb⟩ := hrel
    have HB : Hid (Below w.heap.size w wr) := hb
    have HO : Hid (NO (w.heap.size + 2) wr fa i fc acc g) := hO
    have HRR : Hid (rr.size ≤ maxLen) := hrr
    have HPP : Hid (numsP nn s7 = (numsP (nn - i) rr).map (fun y => (acc ++ y.1, y.2))) := hP
    have HT : Hid (EdAt wr (w.heap.size + 1) ⟨k, p, t, c, l, n, acc⟩ fa i fc) := hT
    have HE : Hid (EdAt wr w.heap.size zeroE none 0 0) := hE
    have HSZ : Hid (w.heap.size + 2 ≤ wr.heap.size) := hsz
    clear hb hO hrr hP hT hE hsz HZT HZE HZB KB KE KT
    by_cases hlt : i < nn
    · cases hN : takeN rr with
      | none =>
        exact absurd (HP.out.symm.trans (nums_stop hlt HPP.out hN)) (fun e => by cases e)
      | some x =>
        obtain ⟨z, rq⟩ := x
        have HN : Hid (takeN rr = some (z, rq)) := hN
        have HP2 : Hid (numsP nn s7 = (numsP (nn - (i + 1)) rq).map (fun y => ((acc ++ [z]) ++ y.1, y.2))) := nums_step hlt HPP.out hN
        have HQ : Hid (rq.size ≤ maxLen) := Nat.le_trans (takeN_size hN) HRR.out
        clear hN HPP
        go_wp2_with fail
        refine (refN_call HN.out _ HRR.out).mono ?_
        rintro x w8 ⟨rfl, b⟩
        replace HB : Hid (Below w.heap.size w w8) := bel_tr HB.out b
        replace HT : Hid (EdAt w8 (w.heap.size + 1) ⟨k, p, t, c, l, n, acc⟩ fa i fc) := HT.out.below b
        replace HE : Hid (EdAt w8 w.heap.size zeroE none 0 0) := HE.out.below b
        replace HO : Hid (NO (w.heap.size + 2) w8 fa i fc acc g) := HO.out.below b
        replace HSZ : Hid (w.heap.size + 2 ≤ w8.heap.size) := Nat.le_trans HSZ.out b.size
        have y6 := HT.out.c6
        clear b
        go_wp2_with (at_builtin; refine wpList_append_cel _ rfl _ _ 22 22 rfl 3 ti _ 1 8 Try.underlying22 hi1 hi2 hi3 hi4 rfl (O := fun k => w.heap.size + 2 ≤ k) _ i _ g rfl (HO.out.below (bel_al _ _)).cel _ 1 (rowC intC [z]) rfl (src_int w8 z) (by unfold maxLen; omega) (by omega) ?_; intro a2 c2 w9 g2 hC2 hS2 hg2; have A2 : Hid _ := (HO.out.below (bel_al _ _)).app (ys := [z]) rfl hC2 (by have := HSZ.out; simp; omega); have S2 : Hid _ := hS2; have hT9 := (HT.out.below (bel_al _ _)).keep hS2 (fun e => by have := (HO.out.own _ e).2; omega); have u6 := hT9.c6; have uf := hT9.fr; have HT9 : Hid _ := hT9; have HE9 : Hid _ := (HE.out.below (bel_al _ _)).keep hS2 (fun e => by have := (HO.out.own _ e).2; omega); have B9 : Hid _ := (HO.out.below (bel_al w8 (.cells #[.int .i64 z] 3))).appBelow hS2 (by have := HSZ.out; simp; omega); have Z9 : Hid _ := hS2.size; clear hC2 hS2 hg2 hT9)
        go_roundw
        case rel =>
          have hset := Stay.setCell (O := fun k => k = w.heap.size + 1) w9 ⟨w.heap.size + 1, 6, none⟩ (.slice a2 (i + 1) c2) rfl
          have hb9 : Below w.heap.size w w9 := (bel_tr HB.out (bel_al _ _)).trans (B9.out.mono (by omega))
          refine ⟨i + 1, a2, c2, g2, rq, acc ++ [z], by omega, by go_num, rfl, HQ.out, HP2.out, set6_at HT9.out _ _ _ _, HE9.out.keep hset (fun e => by omega), A2.out.stay hset (fun k hk e => by have := (A2.out.own k hk).2; omega), ?_, bel_put hb9 (Nat.le_succ _) hset⟩
          have h1 := Z9.out
          have h2 := HSZ.out
          simp at h1
          simp [World.setCell]
          omega
        case measure => simp [intOf]; omega
    · obtain rfl : i = nn := by omega
      have hgd : decide ((i : Int) < (i : Int)) = false := decide_eq_false (by omega)
      have he := nums_end HPP.out
      rw [HP.out] at he
      simp only [Option.some.injEq, Prod.mk.injEq] at he
      obtain ⟨rfl, rfl⟩ := he
      have hTT := HT.out
      have y0 := hTT.c0
      have y1 := hTT.c1
      have y2 := hTT.c2
      have y3 := hTT.c3
      have y4 := hTT.c4
      have y5 := hTT.c5
      have y6 := hTT.c6
      clear hTT hlt HPP HP
      simp only at y0 y1 y2 y3 y4 y5
      go_wp2_with fail
      refine (CR.out _ _ _ _ HO.out.nm).mono ?_
      rintro x w8 ⟨rfl, b⟩
      have KB : Hid (Below w.heap.size w w8) := bel_tr HB.out b
      have KE : Hid (EdAt w8 w.heap.size zeroE none 0 0) := HE.out.below b
      clear y0 y1 y2 y3 y4 y5 y6
      clear b
      have hE := KE.out
      have q0 := hE.c0
      have q1 := hE.c1
      have q2 := hE.c2
      have q3 := hE.c3
      have q4 := hE.c4
      have q5 := hE.c5
      have q6 := hE.c6
      have qf := hE.fr
      have hz := put7_at hE zeroE none 0 0
      unfold put7 zeroE at hz
      simp only at hz
      have HZ : Hid _ := hz
      have HX : Hid _ := bel_put KB.out (Nat.le_refl _) hz.2
      clear hz hE
      unfold zeroE at q0 q1 q2 q3 q4 q5
      simp only at q0 q1 q2 q3 q4 q5
      go_wp2
      have z0 := HZ.out.1.c0
      have z1 := HZ.out.1.c1
      have z2 := HZ.out.1.c2
      have z3 := HZ.out.1.c3
      have z4 := HZ.out.1.c4
      have z5 := HZ.out.1.c5
      have z6 := HZ.out.1.c6
      exact bodyPost_ret (v := .tuple #[edV zeroE none 0 0, .bool false]) (by simp [results, edV, zeroE, Try.results10, go_sem, z0, z1, z2, z3, z4, z5, z6]) rfl ⟨rfl, HX.out⟩

set_option maxRecDepth 100000 in
set_option maxHeartbeats 8000000 in
theorem refDec_d (s s1 s2 s3 s4 s5 s6 s7 p t : ByteArray) (k c l n : Int) (nn : Nat) (w : World) (hs : s.size ≤ maxLen) (h1 : takeN s = some (k, s1)) (h2 : takeT s1 = some (p, s2)) (h3 : takeT s2 = some (t, s3)) (h4 : takeN s3 = some (c, s4)) (h5 : takeN s4 = some (l, s5)) (h6 : takeN s5 = some (n, s6)) (h7 : takeN s6 = some ((nn : Int), s7)) (h8 : nn ≤ 8) (ls : List Int) (r : ByteArray) (h9 : numsP nn s7 = some (ls, r)) (hr : Rt ⟨k, p, t, c, l, n, ls⟩) (h0 : r.size ≠ 0) :
    Calls Try.prog 10 #[.string s] w fun x w' => x = .returned (.tuple #[edV zeroE none 0 0, .bool false]) ∧ Below w.heap.size w w' := by
  obtain ⟨ti, hi1, hi2, hi3, hi4⟩ := intRow
  have HS : Hid (s.size ≤ maxLen) := hs
  have KE : Hid (EdAt ((w.alloc (.cells #[.int .i64 0, .string ⟨#[]⟩, .string ⟨#[]⟩, .int .i64 0, .int .i64 0, .int .i64 0, .slice none 0 0] 24)).alloc (.cells #[.int .i64 0, .string ⟨#[]⟩, .string ⟨#[]⟩, .int .i64 0, .int .i64 0, .int .i64 0, .slice none 0 0] 24)) w.heap.size zeroE none 0 0) := (zero_two w).1
  have KT : Hid (EdAt ((w.alloc (.cells #[.int .i64 0, .string ⟨#[]⟩, .string ⟨#[]⟩, .int .i64 0, .int .i64 0, .int .i64 0, .slice none 0 0] 24)).alloc (.cells #[.int .i64 0, .string ⟨#[]⟩, .string ⟨#[]⟩, .int .i64 0, .int .i64 0, .int .i64 0, .slice none 0 0] 24)) (w.heap.size + 1) zeroE none 0 0) := (zero_two w).2.1
  have KB : Hid (Below w.heap.size w ((w.alloc (.cells #[.int .i64 0, .string ⟨#[]⟩, .string ⟨#[]⟩, .int .i64 0, .int .i64 0, .int .i64 0, .slice none 0 0] 24)).alloc (.cells #[.int .i64 0, .string ⟨#[]⟩, .string ⟨#[]⟩, .int .i64 0, .int .i64 0, .int .i64 0, .slice none 0 0] 24))) := (zero_two w).2.2
  have hst := run_store_str
  have H1 : Hid (takeN s = some (k, s1)) := h1
  have S1 : Hid (s1.size ≤ maxLen) := Nat.le_trans (takeN_size h1) HS.out
  have H2 : Hid (takeT s1 = some (p, s2)) := h2
  have S2 : Hid (s2.size ≤ maxLen) := Nat.le_trans (takeT_less h2) S1.out
  have H3 : Hid (takeT s2 = some (t, s3)) := h3
  have S3 : Hid (s3.size ≤ maxLen) := Nat.le_trans (takeT_less h3) S2.out
  have H4 : Hid (takeN s3 = some (c, s4)) := h4
  have S4 : Hid (s4.size ≤ maxLen) := Nat.le_trans (takeN_size h4) S3.out
  have H5 : Hid (takeN s4 = some (l, s5)) := h5
  have S5 : Hid (s5.size ≤ maxLen) := Nat.le_trans (takeN_size h5) S4.out
  have H6 : Hid (takeN s5 = some (n, s6)) := h6
  have S6 : Hid (s6.size ≤ maxLen) := Nat.le_trans (takeN_size h6) S5.out
  have H7 : Hid (takeN s6 = some ((nn : Int), s7)) := h7
  have S7 : Hid (s7.size ≤ maxLen) := Nat.le_trans (takeN_size h7) S6.out
  have f0 : decide ((nn : Int) < 0) = false := decide_eq_false (by omega)
  have f8 : decide ((8 : Int) < (nn : Int)) = false := decide_eq_false (by omega)
  have HP : Hid (numsP nn s7 = some (ls, r)) := h9
  have CR : Hid (∀ W a m q, Nm W a m ls → Calls Try.prog 14 #[.agg #[.int .i64 k, .string p, .string t, .int .i64 c, .int .i64 l, .int .i64 n, .slice a m q]] W fun x w' => x = .returned (.bool true) ∧ Below W.heap.size W w') := fun W a m q hn => refRight_val (e := ⟨k, p, t, c, l, n, ls⟩) hn true ⟨fun _ => hr, fun _ => rfl⟩
  have hem := text_empty (r := r) (decide_eq_false h0)
  clear h1 h2 h3 h4 h5 h6 h7 h9 hs hr h0
  go_enter Try.func10, Try.ntmps10
  go_wp2_with fail
  refine (refN_call H1.out _ HS.out).mono ?_
  rintro x w1 ⟨rfl, b⟩
  replace KB : Hid (Below w.heap.size w w1) := bel_tr KB.out b
  replace KE : Hid (EdAt w1 w.heap.size zeroE none 0 0) := KE.out.below b
  replace KT : Hid (EdAt w1 (w.heap.size + 1) zeroE none 0 0) := KT.out.below b
  clear b
  go_wp2_with fail
  refine (refTakeText_yes s1 p s2 _ S1.out H2.out).mono ?_
  rintro x w2 ⟨rfl, b⟩
  replace KB : Hid (Below w.heap.size w w2) := bel_tr KB.out b
  replace KE : Hid (EdAt w2 w.heap.size zeroE none 0 0) := KE.out.below b
  replace KT : Hid (EdAt w2 (w.heap.size + 1) zeroE none 0 0) := KT.out.below b
  clear b
  go_wp2_with fail
  refine (refTakeText_yes s2 t s3 _ S2.out H3.out).mono ?_
  rintro x w3 ⟨rfl, b⟩
  replace KB : Hid (Below w.heap.size w w3) := bel_tr KB.out b
  replace KE : Hid (EdAt w3 w.heap.size zeroE none 0 0) := KE.out.below b
  replace KT : Hid (EdAt w3 (w.heap.size + 1) zeroE none 0 0) := KT.out.below b
  clear b
  go_wp2_with fail
  refine (refN_call H4.out _ S3.out).mono ?_
  rintro x w4 ⟨rfl, b⟩
  replace KB : Hid (Below w.heap.size w w4) := bel_tr KB.out b
  replace KE : Hid (EdAt w4 w.heap.size zeroE none 0 0) := KE.out.below b
  replace KT : Hid (EdAt w4 (w.heap.size + 1) zeroE none 0 0) := KT.out.below b
  clear b
  go_wp2_with fail
  refine (refN_call H5.out _ S4.out).mono ?_
  rintro x w5 ⟨rfl, b⟩
  replace KB : Hid (Below w.heap.size w w5) := bel_tr KB.out b
  replace KE : Hid (EdAt w5 w.heap.size zeroE none 0 0) := KE.out.below b
  replace KT : Hid (EdAt w5 (w.heap.size + 1) zeroE none 0 0) := KT.out.below b
  clear b
  go_wp2_with fail
  refine (refN_call H6.out _ S5.out).mono ?_
  rintro x w6 ⟨rfl, b⟩
  replace KB : Hid (Below w.heap.size w w6) := bel_tr KB.out b
  replace KE : Hid (EdAt w6 w.heap.size zeroE none 0 0) := KE.out.below b
  replace KT : Hid (EdAt w6 (w.heap.size + 1) zeroE none 0 0) := KT.out.below b
  clear b
  go_wp2_with fail
  refine (refN_call H7.out _ S6.out).mono ?_
  rintro x w7 ⟨rfl, b⟩
  replace KB : Hid (Below w.heap.size w w7) := bel_tr KB.out b
  replace KE : Hid (EdAt w7 w.heap.size zeroE none 0 0) := KE.out.below b
  replace KT : Hid (EdAt w7 (w.heap.size + 1) zeroE none 0 0) := KT.out.below b
  clear b
  have hT := KT.out
  have t0 := hT.c0
  have t1 := hT.c1
  have t2 := hT.c2
  have t3 := hT.c3
  have t4 := hT.c4
  have t5 := hT.c5
  have t6 := hT.c6
  have tf := hT.fr
  have hz := put7_at hT ⟨k, p, t, c, l, n, []⟩ none 0 0
  have hke := KE.out.keep hz.2 (fun e => by omega)
  have hkb := bel_put KB.out (Nat.le_succ _) hz.2
  unfold put7 at hz hke hkb
  simp only at hz
  have HZT : Hid _ := hz.1
  have HZE : Hid _ := hke
  have HZB : Hid _ := hkb
  clear hz hke hkb hT
  unfold zeroE at t0 t1 t2 t3 t4 t5
  simp only at t0 t1 t2 t3 t4 t5
  go_wp2
  clear t0 t1 t2 t3 t4 t5 t6 tf
  go_loopw [6, 20, 21, 22, 23] (fun v6 v20 _ _ _ wr => ∃ (i : Nat) (fa : Option Addr) (fc : Nat) (g : Option Nat) (rr : ByteArray) (acc : List Int), i ≤ nn ∧ v20 = .int .i64 i ∧ v6 = .string rr ∧ rr.size ≤ maxLen ∧ numsP nn s7 = (numsP (nn - i) rr).map (fun y => (acc ++ y.1, y.2)) ∧ EdAt wr (w.heap.size + 1) ⟨k, p, t, c, l, n, acc⟩ fa i fc ∧ EdAt wr w.heap.size zeroE none 0 0 ∧ NO (w.heap.size + 2) wr fa i fc acc g ∧ w.heap.size + 2 ≤ wr.heap.size ∧ Below w.heap.size w wr) (fun _ v20 _ _ _ _ => nn - (intOf v20).toNat)
  case atStart => exact ⟨0, none, 0, none, s7, [], by omega, rfl, rfl, S7.out, by simp, HZT.out, HZE.out, NO.none _ _, World.block_lt_of_cell? _ _ HZT.out.c0, HZB.out⟩
  case round =>
    obtain ⟨i, fa, fc, g, rr, acc, hil, rfl, rfl, hrr, hP, hT, hE, hO, hsz, hb⟩ := hrel
    have HB : Hid (Below w.heap.size w wr) := hb
    have HO : Hid (NO (w.heap.size + 2) wr fa i fc acc g) := hO
    have HRR : Hid (rr.size ≤ maxLen) := hrr
    have HPP : Hid (numsP nn s7 = (numsP (nn - i) rr).map (fun y => (acc ++ y.1, y.2))) := hP
    have HT : Hid (EdAt wr (w.heap.size + 1) ⟨k, p, t, c, l, n, acc⟩ fa i fc) := hT
    have HE : Hid (EdAt wr w.heap.size zeroE none 0 0) := hE
    have HSZ : Hid (w.heap.size + 2 ≤ wr.heap.size) := hsz
    clear hb hO hrr hP hT hE hsz HZT HZE HZB KB KE KT
    by_cases hlt : i < nn
    · cases hN : takeN rr with
      | none =>
        exact absurd (HP.out.symm.trans (nums_stop hlt HPP.out hN)) (fun e => by cases e)
      | some x =>
        obtain ⟨z, rq⟩ := x
        have HN : Hid (takeN rr = some (z, rq)) := hN
        have HP2 : Hid (numsP nn s7 = (numsP (nn - (i + 1)) rq).map (fun y => ((acc ++ [z]) ++ y.1, y.2))) := nums_step hlt HPP.out hN
        have HQ : Hid (rq.size ≤ maxLen) := Nat.le_trans (takeN_size hN) HRR.out
        clear hN HPP
        go_wp2_with fail
        refine (refN_call HN.out _ HRR.out).mono ?_
        rintro x w8 ⟨rfl, b⟩
        replace HB : Hid (Below w.heap.size w w8) := bel_tr HB.out b
        replace HT : Hid (EdAt w8 (w.heap.size + 1) ⟨k, p, t, c, l, n, acc⟩ fa i fc) := HT.out.below b
        replace HE : Hid (EdAt w8 w.heap.size zeroE none 0 0) := HE.out.below b
        replace HO : Hid (NO (w.heap.size + 2) w8 fa i fc acc g) := HO.out.below b
        replace HSZ : Hid (w.heap.size + 2 ≤ w8.heap.size) := Nat.le_trans HSZ.out b.size
        have y6 := HT.out.c6
        clear b
        go_wp2_with (at_builtin; refine wpList_append_cel _ rfl _ _ 22 22 rfl 3 ti _ 1 8 Try.underlying22 hi1 hi2 hi3 hi4 rfl (O := fun k => w.heap.size + 2 ≤ k) _ i _ g rfl (HO.out.below (bel_al _ _)).cel _ 1 (rowC intC [z]) rfl (src_int w8 z) (by unfold maxLen; omega) (by omega) ?_; intro a2 c2 w9 g2 hC2 hS2 hg2; have A2 : Hid _ := (HO.out.below (bel_al _ _)).app (ys := [z]) rfl hC2 (by have := HSZ.out; simp; omega); have S2 : Hid _ := hS2; have hT9 := (HT.out.below (bel_al _ _)).keep hS2 (fun e => by have := (HO.out.own _ e).2; omega); have u6 := hT9.c6; have uf := hT9.fr; have HT9 : Hid _ := hT9; have HE9 : Hid _ := (HE.out.below (bel_al _ _)).keep hS2 (fun e => by have := (HO.out.own _ e).2; omega); have B9 : Hid _ := (HO.out.below (bel_al w8 (.cells #[.int .i64 z] 3))).appBelow hS2 (by have := HSZ.out; simp; omega); have Z9 : Hid _ := hS2.size; clear hC2 hS2 hg2 hT9)
        go_roundw
        case rel =>
          have hset := Stay.setCell (O := fun k => k = w.heap.size + 1) w9 ⟨w.heap.size + 1, 6, none⟩ (.slice a2 (i + 1) c2) rfl
          have hb9 : Below w.heap.size w w9 := (bel_tr HB.out (bel_al _ _)).trans (B9.out.mono (by omega))
          refine ⟨i + 1, a2, c2, g2, rq, acc ++ [z], by omega, by go_num, rfl, HQ.out, HP2.out, set6_at HT9.out _ _ _ _, HE9.out.keep hset (fun e => by omega), A2.out.stay hset (fun k hk e => by have := (A2.out.own k hk).2; omega), ?_, bel_put hb9 (Nat.le_succ _) hset⟩
          have h1 := Z9.out
          have h2 := HSZ.out
          simp at h1
          simp [World.setCell]
          omega
        case measure => simp [intOf]; omega
    · obtain rfl : i = nn := by omega
      have hgd : decide ((i : Int) < (i : Int)) = false := decide_eq_false (by omega)
      have he := nums_end HPP.out
      rw [HP.out] at he
      simp only [Option.some.injEq, Prod.mk.injEq] at he
      obtain ⟨rfl, rfl⟩ := he
      have hTT := HT.out
      have y0 := hTT.c0
      have y1 := hTT.c1
      have y2 := hTT.c2
      have y3 := hTT.c3
      have y4 := hTT.c4
      have y5 := hTT.c5
      have y6 := hTT.c6
      clear hTT hlt HPP HP
      simp only at y0 y1 y2 y3 y4 y5
      go_wp2_with fail
      refine (CR.out _ _ _ _ HO.out.nm).mono ?_
      rintro x w8 ⟨rfl, b⟩
      have KB : Hid (Below w.heap.size w w8) := bel_tr HB.out b
      have KE : Hid (EdAt w8 w.heap.size zeroE none 0 0) := HE.out.below b
      clear y0 y1 y2 y3 y4 y5 y6
      clear b
      have hE := KE.out
      have q0 := hE.c0
      have q1 := hE.c1
      have q2 := hE.c2
      have q3 := hE.c3
      have q4 := hE.c4
      have q5 := hE.c5
      have q6 := hE.c6
      have qf := hE.fr
      have hz := put7_at hE zeroE none 0 0
      unfold put7 zeroE at hz
      simp only at hz
      have HZ : Hid _ := hz
      have HX : Hid _ := bel_put KB.out (Nat.le_refl _) hz.2
      clear hz hE
      unfold zeroE at q0 q1 q2 q3 q4 q5
      simp only at q0 q1 q2 q3 q4 q5
      go_wp2
      have z0 := HZ.out.1.c0
      have z1 := HZ.out.1.c1
      have z2 := HZ.out.1.c2
      have z3 := HZ.out.1.c3
      have z4 := HZ.out.1.c4
      have z5 := HZ.out.1.c5
      have z6 := HZ.out.1.c6
      exact bodyPost_ret (v := .tuple #[edV zeroE none 0 0, .bool false]) (by simp [results, edV, zeroE, Try.results10, go_sem, z0, z1, z2, z3, z4, z5, z6]) rfl ⟨rfl, HX.out⟩

set_option maxRecDepth 100000 in
set_option maxHeartbeats 8000000 in
theorem refDec_e (s s1 s2 s3 s4 s5 s6 s7 p t : ByteArray) (k c l n : Int) (nn : Nat) (w : World) (hs : s.size ≤ maxLen) (h1 : takeN s = some (k, s1)) (h2 : takeT s1 = some (p, s2)) (h3 : takeT s2 = some (t, s3)) (h4 : takeN s3 = some (c, s4)) (h5 : takeN s4 = some (l, s5)) (h6 : takeN s5 = some (n, s6)) (h7 : takeN s6 = some ((nn : Int), s7)) (h8 : nn ≤ 8) (ls : List Int) (r : ByteArray) (h9 : numsP nn s7 = some (ls, r)) (hr : Rt ⟨k, p, t, c, l, n, ls⟩) (h0 : r.size = 0) :
    Calls Try.prog 10 #[.string s] w fun x w' => DecR w.heap.size (.bool true) ⟨k, p, t, c, l, n, ls⟩ x w' ∧ Below w.heap.size w w' := by
  obtain ⟨ti, hi1, hi2, hi3, hi4⟩ := intRow
  have HS : Hid (s.size ≤ maxLen) := hs
  have KE : Hid (EdAt ((w.alloc (.cells #[.int .i64 0, .string ⟨#[]⟩, .string ⟨#[]⟩, .int .i64 0, .int .i64 0, .int .i64 0, .slice none 0 0] 24)).alloc (.cells #[.int .i64 0, .string ⟨#[]⟩, .string ⟨#[]⟩, .int .i64 0, .int .i64 0, .int .i64 0, .slice none 0 0] 24)) w.heap.size zeroE none 0 0) := (zero_two w).1
  have KT : Hid (EdAt ((w.alloc (.cells #[.int .i64 0, .string ⟨#[]⟩, .string ⟨#[]⟩, .int .i64 0, .int .i64 0, .int .i64 0, .slice none 0 0] 24)).alloc (.cells #[.int .i64 0, .string ⟨#[]⟩, .string ⟨#[]⟩, .int .i64 0, .int .i64 0, .int .i64 0, .slice none 0 0] 24)) (w.heap.size + 1) zeroE none 0 0) := (zero_two w).2.1
  have KB : Hid (Below w.heap.size w ((w.alloc (.cells #[.int .i64 0, .string ⟨#[]⟩, .string ⟨#[]⟩, .int .i64 0, .int .i64 0, .int .i64 0, .slice none 0 0] 24)).alloc (.cells #[.int .i64 0, .string ⟨#[]⟩, .string ⟨#[]⟩, .int .i64 0, .int .i64 0, .int .i64 0, .slice none 0 0] 24))) := (zero_two w).2.2
  have hst := run_store_str
  have H1 : Hid (takeN s = some (k, s1)) := h1
  have S1 : Hid (s1.size ≤ maxLen) := Nat.le_trans (takeN_size h1) HS.out
  have H2 : Hid (takeT s1 = some (p, s2)) := h2
  have S2 : Hid (s2.size ≤ maxLen) := Nat.le_trans (takeT_less h2) S1.out
  have H3 : Hid (takeT s2 = some (t, s3)) := h3
  have S3 : Hid (s3.size ≤ maxLen) := Nat.le_trans (takeT_less h3) S2.out
  have H4 : Hid (takeN s3 = some (c, s4)) := h4
  have S4 : Hid (s4.size ≤ maxLen) := Nat.le_trans (takeN_size h4) S3.out
  have H5 : Hid (takeN s4 = some (l, s5)) := h5
  have S5 : Hid (s5.size ≤ maxLen) := Nat.le_trans (takeN_size h5) S4.out
  have H6 : Hid (takeN s5 = some (n, s6)) := h6
  have S6 : Hid (s6.size ≤ maxLen) := Nat.le_trans (takeN_size h6) S5.out
  have H7 : Hid (takeN s6 = some ((nn : Int), s7)) := h7
  have S7 : Hid (s7.size ≤ maxLen) := Nat.le_trans (takeN_size h7) S6.out
  have f0 : decide ((nn : Int) < 0) = false := decide_eq_false (by omega)
  have f8 : decide ((8 : Int) < (nn : Int)) = false := decide_eq_false (by omega)
  have HP : Hid (numsP nn s7 = some (ls, r)) := h9
  have CR : Hid (∀ W a m q, Nm W a m ls → Calls Try.prog 14 #[.agg #[.int .i64 k, .string p, .string t, .int .i64 c, .int .i64 l, .int .i64 n, .slice a m q]] W fun x w' => x = .returned (.bool true) ∧ Below W.heap.size W w') := fun W a m q hn => refRight_val (e := ⟨k, p, t, c, l, n, ls⟩) hn true ⟨fun _ => hr, fun _ => rfl⟩
  have hem := text_empty (r := r) (decide_eq_true h0)
  clear h1 h2 h3 h4 h5 h6 h7 h9 hs hr h0
  go_enter Try.func10, Try.ntmps10
  go_wp2_with fail
  refine (refN_call H1.out _ HS.out).mono ?_
  rintro x w1 ⟨rfl, b⟩
  replace KB : Hid (Below w.heap.size w w1) := bel_tr KB.out b
  replace KE : Hid (EdAt w1 w.heap.size zeroE none 0 0) := KE.out.below b
  replace KT : Hid (EdAt w1 (w.heap.size + 1) zeroE none 0 0) := KT.out.below b
  clear b
  go_wp2_with fail
  refine (refTakeText_yes s1 p s2 _ S1.out H2.out).mono ?_
  rintro x w2 ⟨rfl, b⟩
  replace KB : Hid (Below w.heap.size w w2) := bel_tr KB.out b
  replace KE : Hid (EdAt w2 w.heap.size zeroE none 0 0) := KE.out.below b
  replace KT : Hid (EdAt w2 (w.heap.size + 1) zeroE none 0 0) := KT.out.below b
  clear b
  go_wp2_with fail
  refine (refTakeText_yes s2 t s3 _ S2.out H3.out).mono ?_
  rintro x w3 ⟨rfl, b⟩
  replace KB : Hid (Below w.heap.size w w3) := bel_tr KB.out b
  replace KE : Hid (EdAt w3 w.heap.size zeroE none 0 0) := KE.out.below b
  replace KT : Hid (EdAt w3 (w.heap.size + 1) zeroE none 0 0) := KT.out.below b
  clear b
  go_wp2_with fail
  refine (refN_call H4.out _ S3.out).mono ?_
  rintro x w4 ⟨rfl, b⟩
  replace KB : Hid (Below w.heap.size w w4) := bel_tr KB.out b
  replace KE : Hid (EdAt w4 w.heap.size zeroE none 0 0) := KE.out.below b
  replace KT : Hid (EdAt w4 (w.heap.size + 1) zeroE none 0 0) := KT.out.below b
  clear b
  go_wp2_with fail
  refine (refN_call H5.out _ S4.out).mono ?_
  rintro x w5 ⟨rfl, b⟩
  replace KB : Hid (Below w.heap.size w w5) := bel_tr KB.out b
  replace KE : Hid (EdAt w5 w.heap.size zeroE none 0 0) := KE.out.below b
  replace KT : Hid (EdAt w5 (w.heap.size + 1) zeroE none 0 0) := KT.out.below b
  clear b
  go_wp2_with fail
  refine (refN_call H6.out _ S5.out).mono ?_
  rintro x w6 ⟨rfl, b⟩
  replace KB : Hid (Below w.heap.size w w6) := bel_tr KB.out b
  replace KE : Hid (EdAt w6 w.heap.size zeroE none 0 0) := KE.out.below b
  replace KT : Hid (EdAt w6 (w.heap.size + 1) zeroE none 0 0) := KT.out.below b
  clear b
  go_wp2_with fail
  refine (refN_call H7.out _ S6.out).mono ?_
  rintro x w7 ⟨rfl, b⟩
  replace KB : Hid (Below w.heap.size w w7) := bel_tr KB.out b
  replace KE : Hid (EdAt w7 w.heap.size zeroE none 0 0) := KE.out.below b
  replace KT : Hid (EdAt w7 (w.heap.size + 1) zeroE none 0 0) := KT.out.below b
  clear b
  have hT := KT.out
  have t0 := hT.c0
  have t1 := hT.c1
  have t2 := hT.c2
  have t3 := hT.c3
  have t4 := hT.c4
  have t5 := hT.c5
  have t6 := hT.c6
  have tf := hT.fr
  have hz := put7_at hT ⟨k, p, t, c, l, n, []⟩ none 0 0
  have hke := KE.out.keep hz.2 (fun e => by omega)
  have hkb := bel_put KB.out (Nat.le_succ _) hz.2
  unfold put7 at hz hke hkb
  simp only at hz
  have HZT : Hid _ := hz.1
  have HZE : Hid _ := hke
  have HZB : Hid _ := hkb
  clear hz hke hkb hT
  unfold zeroE at t0 t1 t2 t3 t4 t5
  simp only at t0 t1 t2 t3 t4 t5
  go_wp2
  clear t0 t1 t2 t3 t4 t5 t6 tf
  go_loopw [6, 20, 21, 22, 23] (fun v6 v20 _ _ _ wr => ∃ (i : Nat) (fa : Option Addr) (fc : Nat) (g : Option Nat) (rr : ByteArray) (acc : List Int), i ≤ nn ∧ v20 = .int .i64 i ∧ v6 = .string rr ∧ rr.size ≤ maxLen ∧ numsP nn s7 = (numsP (nn - i) rr).map (fun y => (acc ++ y.1, y.2)) ∧ EdAt wr (w.heap.size + 1) ⟨k, p, t, c, l, n, acc⟩ fa i fc ∧ EdAt wr w.heap.size zeroE none 0 0 ∧ NO (w.heap.size + 2) wr fa i fc acc g ∧ w.heap.size + 2 ≤ wr.heap.size ∧ Below w.heap.size w wr) (fun _ v20 _ _ _ _ => nn - (intOf v20).toNat)
  case atStart => exact ⟨0, none, 0, none, s7, [], by omega, rfl, rfl, S7.out, by simp, HZT.out, HZE.out, NO.none _ _, World.block_lt_of_cell? _ _ HZT.out.c0, HZB.out⟩
  case round =>
    obtain ⟨i, fa, fc, g, rr, acc, hil, rfl, rfl, hrr, hP, hT, hE, hO, hsz, hb⟩ := hrel
    have HB : Hid (Below w.heap.size w wr) := hb
    have HO : Hid (NO (w.heap.size + 2) wr fa i fc acc g) := hO
    have HRR : Hid (rr.size ≤ maxLen) := hrr
    have HPP : Hid (numsP nn s7 = (numsP (nn - i) rr).map (fun y => (acc ++ y.1, y.2))) := hP
    have HT : Hid (EdAt wr (w.heap.size + 1) ⟨k, p, t, c, l, n, acc⟩ fa i fc) := hT
    have HE : Hid (EdAt wr w.heap.size zeroE none 0 0) := hE
    have HSZ : Hid (w.heap.size + 2 ≤ wr.heap.size) := hsz
    clear hb hO hrr hP hT hE hsz HZT HZE HZB KB KE KT
    by_cases hlt : i < nn
    · cases hN : takeN rr with
      | none =>
        exact absurd (HP.out.symm.trans (nums_stop hlt HPP.out hN)) (fun e => by cases e)
      | some x =>
        obtain ⟨z, rq⟩ := x
        have HN : Hid (takeN rr = some (z, rq)) := hN
        have HP2 : Hid (numsP nn s7 = (numsP (nn - (i + 1)) rq).map (fun y => ((acc ++ [z]) ++ y.1, y.2))) := nums_step hlt HPP.out hN
        have HQ : Hid (rq.size ≤ maxLen) := Nat.le_trans (takeN_size hN) HRR.out
        clear hN HPP
        go_wp2_with fail
        refine (refN_call HN.out _ HRR.out).mono ?_
        rintro x w8 ⟨rfl, b⟩
        replace HB : Hid (Below w.heap.size w w8) := bel_tr HB.out b
        replace HT : Hid (EdAt w8 (w.heap.size + 1) ⟨k, p, t, c, l, n, acc⟩ fa i fc) := HT.out.below b
        replace HE : Hid (EdAt w8 w.heap.size zeroE none 0 0) := HE.out.below b
        replace HO : Hid (NO (w.heap.size + 2) w8 fa i fc acc g) := HO.out.below b
        replace HSZ : Hid (w.heap.size + 2 ≤ w8.heap.size) := Nat.le_trans HSZ.out b.size
        have y6 := HT.out.c6
        clear b
        go_wp2_with (at_builtin; refine wpList_append_cel _ rfl _ _ 22 22 rfl 3 ti _ 1 8 Try.underlying22 hi1 hi2 hi3 hi4 rfl (O := fun k => w.heap.size + 2 ≤ k) _ i _ g rfl (HO.out.below (bel_al _ _)).cel _ 1 (rowC intC [z]) rfl (src_int w8 z) (by unfold maxLen; omega) (by omega) ?_; intro a2 c2 w9 g2 hC2 hS2 hg2; have A2 : Hid _ := (HO.out.below (bel_al _ _)).app (ys := [z]) rfl hC2 (by have := HSZ.out; simp; omega); have S2 : Hid _ := hS2; have hT9 := (HT.out.below (bel_al _ _)).keep hS2 (fun e => by have := (HO.out.own _ e).2; omega); have u6 := hT9.c6; have uf := hT9.fr; have HT9 : Hid _ := hT9; have HE9 : Hid _ := (HE.out.below (bel_al _ _)).keep hS2 (fun e => by have := (HO.out.own _ e).2; omega); have B9 : Hid _ := (HO.out.below (bel_al w8 (.cells #[.int .i64 z] 3))).appBelow hS2 (by have := HSZ.out; simp; omega); have Z9 : Hid _ := hS2.size; clear hC2 hS2 hg2 hT9)
        go_roundw
        case rel =>
          have hset := Stay.setCell (O := fun k => k = w.heap.size + 1) w9 ⟨w.heap.size + 1, 6, none⟩ (.slice a2 (i + 1) c2) rfl
          have hb9 : Below w.heap.size w w9 := (bel_tr HB.out (bel_al _ _)).trans (B9.out.mono (by omega))
          refine ⟨i + 1, a2, c2, g2, rq, acc ++ [z], by omega, by go_num, rfl, HQ.out, HP2.out, set6_at HT9.out _ _ _ _, HE9.out.keep hset (fun e => by omega), A2.out.stay hset (fun k hk e => by have := (A2.out.own k hk).2; omega), ?_, bel_put hb9 (Nat.le_succ _) hset⟩
          have h1 := Z9.out
          have h2 := HSZ.out
          simp at h1
          simp [World.setCell]
          omega
        case measure => simp [intOf]; omega
    · obtain rfl : i = nn := by omega
      have hgd : decide ((i : Int) < (i : Int)) = false := decide_eq_false (by omega)
      have he := nums_end HPP.out
      rw [HP.out] at he
      simp only [Option.some.injEq, Prod.mk.injEq] at he
      obtain ⟨rfl, rfl⟩ := he
      have hTT := HT.out
      have y0 := hTT.c0
      have y1 := hTT.c1
      have y2 := hTT.c2
      have y3 := hTT.c3
      have y4 := hTT.c4
      have y5 := hTT.c5
      have y6 := hTT.c6
      clear hTT hlt HPP HP
      simp only at y0 y1 y2 y3 y4 y5
      go_wp2_with fail
      refine (CR.out _ _ _ _ HO.out.nm).mono ?_
      rintro x w8 ⟨rfl, b⟩
      have KB : Hid (Below w.heap.size w w8) := bel_tr HB.out b
      have KE : Hid (EdAt w8 w.heap.size zeroE none 0 0) := HE.out.below b
      clear y0 y1 y2 y3 y4 y5 y6
      have hTT := HT.out.below b
      have y0 := hTT.c0
      have y1 := hTT.c1
      have y2 := hTT.c2
      have y3 := hTT.c3
      have y4 := hTT.c4
      have y5 := hTT.c5
      have y6 := hTT.c6
      clear hTT
      simp only at y0 y1 y2 y3 y4 y5
      have hE := KE.out
      have q0 := hE.c0
      have q1 := hE.c1
      have q2 := hE.c2
      have q3 := hE.c3
      have q4 := hE.c4
      have q5 := hE.c5
      have q6 := hE.c6
      have qf := hE.fr
      have hO8 := HO.out.below b
      have hz := put7_at hE ⟨k, p, t, c, l, n, ls⟩ fa i fc
      unfold put7 at hz
      simp only at hz
      have HZ : Hid _ := hz
      have HX : Hid _ := bel_put KB.out (Nat.le_refl _) hz.2
      have HNN : Hid _ := (hO8.stay hz.2 (fun k' hk e => by have := (hO8.own k' hk).2; omega)).mono (Nat.le_add_right _ 2)
      clear hz hE hO8 b
      unfold zeroE at q0 q1 q2 q3 q4 q5
      simp only at q0 q1 q2 q3 q4 q5
      go_wp2
      have z0 := HZ.out.1.c0
      have z1 := HZ.out.1.c1
      have z2 := HZ.out.1.c2
      have z3 := HZ.out.1.c3
      have z4 := HZ.out.1.c4
      have z5 := HZ.out.1.c5
      have z6 := HZ.out.1.c6
      exact bodyPost_ret (v := .tuple #[edV ⟨k, p, t, c, l, n, ls⟩ fa i fc, .bool true]) (by simp [results, edV, Try.results10, go_sem, z0, z1, z2, z3, z4, z5, z6]) rfl ⟨⟨_, _, _, _, rfl, HNN.out⟩, HX.out⟩

theorem refDecode_no (s : ByteArray) (w : World) (hs : s.size ≤ maxLen) (h : decE s = none) :
    Calls Try.prog 10 #[.string s] w fun x w' => x = .returned (.tuple #[edV zeroE none 0 0, .bool false]) ∧ Below w.heap.size w w' := by
  cases hT : takeE s with
  | none =>
    by_cases hm : ∀ s1 s2 s3 s4 s5 s6 s7 k p t c l n m, takeN s = some (k, s1) → takeT s1 = some (p, s2) → takeT s2 = some (t, s3) → takeN s3 = some (c, s4) → takeN s4 = some (l, s5) → takeN s5 = some (n, s6) → takeN s6 = some (m, s7) → inB 0 m 8 = false
    · exact refDec_a s w hs hm
    · simp only [Classical.not_forall] at hm
      obtain ⟨s1, s2, s3, s4, s5, s6, s7, k, p, t, c, l, n, m, h1, h2, h3, h4, h5, h6, h7, h8⟩ := hm
      have h8' : inB 0 m 8 = true := by simpa using h8
      have hm := inB_iff.1 h8'
      obtain ⟨nn, rfl⟩ : ∃ nn : Nat, m = (nn : Int) := ⟨m.toNat, by omega⟩
      cases h9 : numsP nn s7 with
      | none => exact refDec_b s s1 s2 s3 s4 s5 s6 s7 p t k c l n nn w hs h1 h2 h3 h4 h5 h6 h7 (by omega) h9
      | some x =>
        obtain ⟨ls, r⟩ := x
        rw [takeE_yes h1 h2 h3 h4 h5 h6 h7 h8' h9] at hT
        cases hT
  | some x =>
    obtain ⟨e, r⟩ := x
    obtain ⟨s1, s2, s3, s4, s5, s6, s7, m, h1, h2, h3, h4, h5, h6, h7, h8, h9⟩ := (takeE_parts hT).ex
    have hm := inB_iff.1 h8
    obtain ⟨nn, rfl⟩ : ∃ nn : Nat, m = (nn : Int) := ⟨m.toNat, by omega⟩
    rw [Int.toNat_natCast] at h9
    obtain ⟨k, p, t, c, l, n, ls⟩ := e
    by_cases hr : Rt ⟨k, p, t, c, l, n, ls⟩
    · by_cases h0 : r.size = 0
      · rw [decE_yes hT h0 hr] at h; cases h
      · exact refDec_d s s1 s2 s3 s4 s5 s6 s7 p t k c l n nn w hs h1 h2 h3 h4 h5 h6 h7 (by omega) ls r h9 hr h0
    · exact refDec_c s s1 s2 s3 s4 s5 s6 s7 p t k c l n nn w hs h1 h2 h3 h4 h5 h6 h7 (by omega) ls r h9 hr

theorem refDecode_yes (s : ByteArray) (e : Ed) (w : World) (hs : s.size ≤ maxLen) (h : decE s = some e) :
    Calls Try.prog 10 #[.string s] w fun x w' => DecR w.heap.size (.bool true) e x w' ∧ Below w.heap.size w w' := by
  obtain ⟨r, hT, h0, hr⟩ := dec_parts h
  obtain ⟨s1, s2, s3, s4, s5, s6, s7, m, h1, h2, h3, h4, h5, h6, h7, h8, h9⟩ := (takeE_parts hT).ex
  have hm := inB_iff.1 h8
  obtain ⟨nn, rfl⟩ : ∃ nn : Nat, m = (nn : Int) := ⟨m.toNat, by omega⟩
  rw [Int.toNat_natCast] at h9
  obtain ⟨k, p, t, c, l, n, ls⟩ := e
  exact refDec_e s s1 s2 s3 s4 s5 s6 s7 p t k c l n nn w hs h1 h2 h3 h4 h5 h6 h7 (by omega) ls r h9 hr h0

end Go.Proofs.Ytlinlbfiheoniaa.Edi
