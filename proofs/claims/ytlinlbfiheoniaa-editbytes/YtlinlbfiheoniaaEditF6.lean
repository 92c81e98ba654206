/- The contract of edit.take. -/
import Derived.Test.YtlinlbfiheoniaaEditF5
import Derived.BigQuiet
namespace Go.Proofs.Ytlinlbfiheoniaa.Edi
open Go.RowKit Go.Proofs.Ytlinlbfiheoniaa

theorem nums4_parts {s s7 : ByteArray} {q : List Int} (h : numsP 4 s = some (q, s7)) : ∃ c l n m s4 s5 s6, q = [c, l, n, m] ∧ takeN s = some (c, s4) ∧ takeN s4 = some (l, s5) ∧ takeN s5 = some (n, s6) ∧ takeN s6 = some (m, s7) := by
  simp only [numsP] at h
  cases h1 : takeN s with
  | none => rw [h1] at h; cases h
  | some x => obtain ⟨c, s4⟩ := x; rw [h1] at h; simp only at h; cases h2 : takeN s4 with
    | none => rw [h2] at h; cases h
    | some x => obtain ⟨l, s5⟩ := x; rw [h2] at h; simp only at h; cases h3 : takeN s5 with
      | none => rw [h3] at h; cases h
      | some x => obtain ⟨n, s6⟩ := x; rw [h3] at h; simp only at h; cases h4 : takeN s6 with
        | none => rw [h4] at h; cases h
        | some x =>
          obtain ⟨m, s7'⟩ := x
          rw [h4] at h
          simp only [Option.some.injEq, Prod.mk.injEq] at h
          obtain ⟨rfl, rfl⟩ := h
          exact ⟨c, l, n, m, s4, s5, s6, rfl, rfl, h2, h3, h4⟩
theorem nums4_of {s s4 s5 s6 s7 : ByteArray} {c l n m : Int} (h1 : takeN s = some (c, s4)) (h2 : takeN s4 = some (l, s5)) (h3 : takeN s5 = some (n, s6)) (h4 : takeN s6 = some (m, s7)) : numsP 4 s = some ([c, l, n, m], s7) := by
  simp only [numsP, h1, h2, h3, h4]

/-- Four numbers of the call's own. -/
theorem NO.four {base : Nat} {w : World} {a : Option Addr} {q : Nat} {z0 z1 z2 z3 : Int} {g : Option Nat} (h : NO base w a 4 q [z0, z1, z2, z3] g) : ∃ b, a = some ⟨b, 0, Option.none⟩ ∧ w.cell? ⟨b, 0, Option.none⟩ = some (.int .i64 z0) ∧ w.cell? ⟨b, 1, Option.none⟩ = some (.int .i64 z1) ∧ w.cell? ⟨b, 2, Option.none⟩ = some (.int .i64 z2) ∧ w.cell? ⟨b, 3, Option.none⟩ = some (.int .i64 z3) := by
  obtain ⟨b, hb, hg⟩ := h.cel.at2 (by omega)
  obtain ⟨b', off, ha, hc⟩ := h.nm.at (by omega)
  rw [hb] at ha
  cases ha
  have h0 := hc 0 (by simp)
  have h1 := hc 1 (by simp)
  have h2 := hc 2 (by simp)
  have h3 := hc 3 (by simp)
  exact ⟨_, hb, h0, h1, h2, h3⟩

/-- An edit, and what stands behind it. -/
structure TakeR (base : Nat) (e : Ed) (r : ByteArray) (x : Ending) (w' : World) : Prop where
  ex : ∃ a m q g, x = .returned (.tuple #[edV e a m q, .string r, .int .i64 0]) ∧ NO base w' a m q e.ls g

theorem run_store_str (w : World) (a : Addr) (x : ByteArray) (m : Mode) : (store a (.string x) m).run Try.prog w = stored Try.prog w a (.string x) m := run_store Try.prog w a _ m rfl

theorem bel_put {w w1 : World} (h : Below w.heap.size w w1) {b : Nat} (hb : w.heap.size ≤ b) {w2 : World} (hs : Stay (fun k => k = b) w1 w2) : Below w.heap.size w w2 :=
  h.trans (hs.below h.size (fun k hk => by omega))

set_option maxRecDepth 100000 in
set_option maxHeartbeats 4000000 in
theorem take_no (s : ByteArray) (w : World) (hs : s.size ≤ maxLen) (h : takeE s = none) :
    Calls Try.prog 21 #[.string s] w fun x w' => x = .returned (.tuple #[edV zeroE none 0 0, .string ⟨#[]⟩, .int .i64 2]) ∧ Below w.heap.size w w' := by
  have HS : Hid (s.size ≤ maxLen) := hs
  have KE : Hid (EdAt (w.alloc (.cells #[.int .i64 0, .string ⟨#[]⟩, .string ⟨#[]⟩, .int .i64 0, .int .i64 0, .int .i64 0, .slice none 0 0] 24)) w.heap.size zeroE none 0 0) := EdAt.new w 24 zeroE none 0 0
  have KB : Hid (Below w.heap.size w (w.alloc (.cells #[.int .i64 0, .string ⟨#[]⟩, .string ⟨#[]⟩, .int .i64 0, .int .i64 0, .int .i64 0, .slice none 0 0] 24))) := bel_al _ _
  have hst := run_store_str
  cases h1 : takeN s with
  | none =>
    have H1 : Hid (takeN s = none) := h1
    clear h h1 hs
    go_enter Try.func21, Try.ntmps21
    go_wp2_with fail
    refine (takeN_call0 H1.out _ HS.out).mono ?_
    rintro x w1 ⟨rfl, b⟩
    replace KB : Hid (Below w.heap.size w w1) := bel_tr KB.out b
    replace KE : Hid (EdAt w1 w.heap.size zeroE none 0 0) := KE.out.below b
    clear b
    have hE := KE.out
    have q0 := hE.c0
    have q1 := hE.c1
    have q2 := hE.c2
    have q3 := hE.c3
    have q4 := hE.c4
    have q5 := hE.c5
    have q6 := hE.c6
    have qf := hE.fr
    have hz := put7_at hE zeroE none 0 0
    unfold put7 zeroE at hz
    simp only at hz
    have HZ : Hid _ := hz
    have HX : Hid _ := bel_put KB.out (Nat.le_refl _) hz.2
    clear hz hE
    unfold zeroE at q0 q1 q2 q3 q4 q5
    simp only at q0 q1 q2 q3 q4 q5
    go_wp2
    have z0 := HZ.out.1.c0
    have z1 := HZ.out.1.c1
    have z2 := HZ.out.1.c2
    have z3 := HZ.out.1.c3
    have z4 := HZ.out.1.c4
    have z5 := HZ.out.1.c5
    have z6 := HZ.out.1.c6
    exact bodyPost_ret (v := .tuple #[edV zeroE none 0 0, .string ⟨#[]⟩, .int .i64 2]) (by simp [results, edV, zeroE, Try.results21, go_sem, z0, z1, z2, z3, z4, z5, z6]) rfl ⟨rfl, HX.out⟩
  | some x =>
    obtain ⟨k, s1⟩ := x
    have H1 : Hid (takeN s = some (k, s1)) := h1
    have S1 : Hid (s1.size ≤ maxLen) := Nat.le_trans (takeN_size h1) hs
    cases h2 : takeT s1 with
    | none =>
      have H2 : Hid (takeT s1 = none) := h2
      clear h h1 h2 hs
      go_enter Try.func21, Try.ntmps21
      go_wp2_with fail
      refine (takeN_call H1.out _ HS.out).mono ?_
      rintro x w1 ⟨rfl, b⟩
      replace KB : Hid (Below w.heap.size w w1) := bel_tr KB.out b
      replace KE : Hid (EdAt w1 w.heap.size zeroE none 0 0) := KE.out.below b
      clear b
      go_wp2_with fail
      refine (takeText_no s1 _ S1.out H2.out).mono ?_
      rintro x w2 ⟨rfl, b⟩
      replace KB : Hid (Below w.heap.size w w2) := bel_tr KB.out b
      replace KE : Hid (EdAt w2 w.heap.size zeroE none 0 0) := KE.out.below b
      clear b
      have hE := KE.out
      have q0 := hE.c0
      have q1 := hE.c1
      have q2 := hE.c2
      have q3 := hE.c3
      have q4 := hE.c4
      have q5 := hE.c5
      have q6 := hE.c6
      have qf := hE.fr
      have hz := put7_at hE zeroE none 0 0
      unfold put7 zeroE at hz
      simp only at hz
      have HZ : Hid _ := hz
      have HX : Hid _ := bel_put KB.out (Nat.le_refl _) hz.2
      clear hz hE
      unfold zeroE at q0 q1 q2 q3 q4 q5
      simp only at q0 q1 q2 q3 q4 q5
      go_wp2
      have z0 := HZ.out.1.c0
      have z1 := HZ.out.1.c1
      have z2 := HZ.out.1.c2
      have z3 := HZ.out.1.c3
      have z4 := HZ.out.1.c4
      have z5 := HZ.out.1.c5
      have z6 := HZ.out.1.c6
      exact bodyPost_ret (v := .tuple #[edV zeroE none 0 0, .string ⟨#[]⟩, .int .i64 2]) (by simp [results, edV, zeroE, Try.results21, go_sem, z0, z1, z2, z3, z4, z5, z6]) rfl ⟨rfl, HX.out⟩
    | some x =>
      obtain ⟨p, s2⟩ := x
      have H2 : Hid (takeT s1 = some (p, s2)) := h2
      have S2 : Hid (s2.size ≤ maxLen) := Nat.le_trans (takeT_less h2) S1.out
      cases h3 : takeT s2 with
      | none =>
        have H3 : Hid (takeT s2 = none) := h3
        clear h h1 h2 h3 hs
        go_enter Try.func21, Try.ntmps21
        go_wp2_with fail
        refine (takeN_call H1.out _ HS.out).mono ?_
        rintro x w1 ⟨rfl, b⟩
        replace KB : Hid (Below w.heap.size w w1) := bel_tr KB.out b
        replace KE : Hid (EdAt w1 w.heap.size zeroE none 0 0) := KE.out.below b
        clear b
        go_wp2_with fail
        refine (takeText_yes s1 p s2 _ S1.out H2.out).mono ?_
        rintro x w2 ⟨rfl, b⟩
        replace KB : Hid (Below w.heap.size w w2) := bel_tr KB.out b
        replace KE : Hid (EdAt w2 w.heap.size zeroE none 0 0) := KE.out.below b
        clear b
        go_wp2_with fail
        refine (takeText_no s2 _ S2.out H3.out).mono ?_
        rintro x w3 ⟨rfl, b⟩
        replace KB : Hid (Below w.heap.size w w3) := bel_tr KB.out b
        replace KE : Hid (EdAt w3 w.heap.size zeroE none 0 0) := KE.out.below b
        clear b
        have hE := KE.out
        have q0 := hE.c0
        have q1 := hE.c1
        have q2 := hE.c2
        have q3 := hE.c3
        have q4 := hE.c4
        have q5 := hE.c5
        have q6 := hE.c6
        have qf := hE.fr
        have hz := put7_at hE zeroE none 0 0
        unfold put7 zeroE at hz
        simp only at hz
        have HZ : Hid _ := hz
        have HX : Hid _ := bel_put KB.out (Nat.le_refl _) hz.2
        clear hz hE
        unfold zeroE at q0 q1 q2 q3 q4 q5
        simp only at q0 q1 q2 q3 q4 q5
        go_wp2
        have z0 := HZ.out.1.c0
        have z1 := HZ.out.1.c1
        have z2 := HZ.out.1.c2
        have z3 := HZ.out.1.c3
        have z4 := HZ.out.1.c4
        have z5 := HZ.out.1.c5
        have z6 := HZ.out.1.c6
        exact bodyPost_ret (v := .tuple #[edV zeroE none 0 0, .string ⟨#[]⟩, .int .i64 2]) (by simp [results, edV, zeroE, Try.results21, go_sem, z0, z1, z2, z3, z4, z5, z6]) rfl ⟨rfl, HX.out⟩
      | some x =>
        obtain ⟨t, s3⟩ := x
        have H3 : Hid (takeT s2 = some (t, s3)) := h3
        have S3 : Hid (s3.size ≤ maxLen) := Nat.le_trans (takeT_less h3) S2.out
        cases h4 : numsP 4 s3 with
        | none =>
          have H4 : Hid (numsP 4 s3 = none) := h4
          clear h h1 h2 h3 h4 hs
          go_enter Try.func21, Try.ntmps21
          go_wp2_with fail
          refine (takeN_call H1.out _ HS.out).mono ?_
          rintro x w1 ⟨rfl, b⟩
          replace KB : Hid (Below w.heap.size w w1) := bel_tr KB.out b
          replace KE : Hid (EdAt w1 w.heap.size zeroE none 0 0) := KE.out.below b
          clear b
          go_wp2_with fail
          refine (takeText_yes s1 p s2 _ S1.out H2.out).mono ?_
          rintro x w2 ⟨rfl, b⟩
          replace KB : Hid (Below w.heap.size w w2) := bel_tr KB.out b
          replace KE : Hid (EdAt w2 w.heap.size zeroE none 0 0) := KE.out.below b
          clear b
          go_wp2_with fail
          refine (takeText_yes s2 t s3 _ S2.out H3.out).mono ?_
          rintro x w3 ⟨rfl, b⟩
          replace KB : Hid (Below w.heap.size w w3) := bel_tr KB.out b
          replace KE : Hid (EdAt w3 w.heap.size zeroE none 0 0) := KE.out.below b
          clear b
          go_wp2_with fail
          refine (takeNumbers_no s3 4 _ S3.out (by omega) H4.out).mono ?_
          rintro x w4 ⟨rfl, b⟩
          replace KB : Hid (Below w.heap.size w w4) := bel_tr KB.out b
          replace KE : Hid (EdAt w4 w.heap.size zeroE none 0 0) := KE.out.below b
          clear b
          have hE := KE.out
          have q0 := hE.c0
          have q1 := hE.c1
          have q2 := hE.c2
          have q3 := hE.c3
          have q4 := hE.c4
          have q5 := hE.c5
          have q6 := hE.c6
          have qf := hE.fr
          have hz := put7_at hE zeroE none 0 0
          unfold put7 zeroE at hz
          simp only at hz
          have HZ : Hid _ := hz
          have HX : Hid _ := bel_put KB.out (Nat.le_refl _) hz.2
          clear hz hE
          unfold zeroE at q0 q1 q2 q3 q4 q5
          simp only at q0 q1 q2 q3 q4 q5
          go_wp2
          have z0 := HZ.out.1.c0
          have z1 := HZ.out.1.c1
          have z2 := HZ.out.1.c2
          have z3 := HZ.out.1.c3
          have z4 := HZ.out.1.c4
          have z5 := HZ.out.1.c5
          have z6 := HZ.out.1.c6
          exact bodyPost_ret (v := .tuple #[edV zeroE none 0 0, .string ⟨#[]⟩, .int .i64 2]) (by simp [results, edV, zeroE, Try.results21, go_sem, z0, z1, z2, z3, z4, z5, z6]) rfl ⟨rfl, HX.out⟩
        | some x =>
          obtain ⟨fq, s7⟩ := x
          obtain ⟨c, l, n, m, s4, s5, s6, rfl, g1, g2, g3, g4⟩ := nums4_parts h4
          have H4 : Hid (numsP 4 s3 = some ([c, l, n, m], s7)) := h4
          have S7 : Hid (s7.size ≤ maxLen) := Nat.le_trans (numsP_sound _ _ _ _ h4).2.2 S3.out
          cases h5 : inB 0 m 8 with
          | false =>
            clear h h1 h2 h3 h4 hs g1 g2 g3 g4
            go_enter Try.func21, Try.ntmps21
            go_wp2_with fail
            refine (takeN_call H1.out _ HS.out).mono ?_
            rintro x w1 ⟨rfl, b⟩
            replace KB : Hid (Below w.heap.size w w1) := bel_tr KB.out b
            replace KE : Hid (EdAt w1 w.heap.size zeroE none 0 0) := KE.out.below b
            clear b
            go_wp2_with fail
            refine (takeText_yes s1 p s2 _ S1.out H2.out).mono ?_
            rintro x w2 ⟨rfl, b⟩
            replace KB : Hid (Below w.heap.size w w2) := bel_tr KB.out b
            replace KE : Hid (EdAt w2 w.heap.size zeroE none 0 0) := KE.out.below b
            clear b
            go_wp2_with fail
            refine (takeText_yes s2 t s3 _ S2.out H3.out).mono ?_
            rintro x w3 ⟨rfl, b⟩
            replace KB : Hid (Below w.heap.size w w3) := bel_tr KB.out b
            replace KE : Hid (EdAt w3 w.heap.size zeroE none 0 0) := KE.out.below b
            clear b
            go_wp2_with fail
            refine (takeNumbers_yes s3 s7 4 [c, l, n, m] _ S3.out (by omega) H4.out).mono ?_
            rintro x w4 ⟨⟨fa, fc, fg, rfl, hO⟩, b⟩
            replace KB : Hid (Below w.heap.size w w4) := bel_tr KB.out b
            replace KE : Hid (EdAt w4 w.heap.size zeroE none 0 0) := KE.out.below b
            clear b
            obtain ⟨fb, rfl, f0, f1, f2, f3⟩ := hO.four
            clear hO
            go_wp2
            go_quiet (fail)
            clear f0 f1 f2 f3
            have hdr := below_drewN (Below.refl w4.heap.size w4) nq
            replace KB : Hid (Below w.heap.size w (w4.drewN nq)) := bel_tr KB.out hdr
            replace KE : Hid (EdAt (w4.drewN nq) w.heap.size zeroE none 0 0) := KE.out.below hdr
            clear hdr
            generalize w4.drewN nq = w5 at *
            go_wp2_with fail
            refine (within_val _ _ _ _).mono ?_
            rintro x w6 ⟨rfl, hw6⟩
            subst hw6
            have hE := KE.out
            have q0 := hE.c0
            have q1 := hE.c1
            have q2 := hE.c2
            have q3 := hE.c3
            have q4 := hE.c4
            have q5 := hE.c5
            have q6 := hE.c6
            have qf := hE.fr
            have hz := put7_at hE zeroE none 0 0
            unfold put7 zeroE at hz
            simp only at hz
            have HZ : Hid _ := hz
            have HX : Hid _ := bel_put KB.out (Nat.le_refl _) hz.2
            clear hz hE
            unfold zeroE at q0 q1 q2 q3 q4 q5
            simp only at q0 q1 q2 q3 q4 q5
            go_wp2
            have z0 := HZ.out.1.c0
            have z1 := HZ.out.1.c1
            have z2 := HZ.out.1.c2
            have z3 := HZ.out.1.c3
            have z4 := HZ.out.1.c4
            have z5 := HZ.out.1.c5
            have z6 := HZ.out.1.c6
            exact bodyPost_ret (v := .tuple #[edV zeroE none 0 0, .string ⟨#[]⟩, .int .i64 2]) (by simp [results, edV, zeroE, Try.results21, go_sem, z0, z1, z2, z3, z4, z5, z6]) rfl ⟨rfl, HX.out⟩
          | true =>
            have hm := inB_iff.1 h5
            obtain ⟨nn, rfl⟩ : ∃ nn : Nat, m = (nn : Int) := ⟨m.toNat, by omega⟩
            have h8 : nn ≤ 8 := by omega
            cases h6 : numsP nn s7 with
            | none =>
              have H6 : Hid (numsP nn s7 = none) := h6
              clear h h1 h2 h3 h4 hs g1 g2 g3 g4 hm h6
              go_enter Try.func21, Try.ntmps21
              go_wp2_with fail
              refine (takeN_call H1.out _ HS.out).mono ?_
              rintro x w1 ⟨rfl, b⟩
              replace KB : Hid (Below w.heap.size w w1) := bel_tr KB.out b
              replace KE : Hid (EdAt w1 w.heap.size zeroE none 0 0) := KE.out.below b
              clear b
              go_wp2_with fail
              refine (takeText_yes s1 p s2 _ S1.out H2.out).mono ?_
              rintro x w2 ⟨rfl, b⟩
              replace KB : Hid (Below w.heap.size w w2) := bel_tr KB.out b
              replace KE : Hid (EdAt w2 w.heap.size zeroE none 0 0) := KE.out.below b
              clear b
              go_wp2_with fail
              refine (takeText_yes s2 t s3 _ S2.out H3.out).mono ?_
              rintro x w3 ⟨rfl, b⟩
              replace KB : Hid (Below w.heap.size w w3) := bel_tr KB.out b
              replace KE : Hid (EdAt w3 w.heap.size zeroE none 0 0) := KE.out.below b
              clear b
              go_wp2_with fail
              refine (takeNumbers_yes s3 s7 4 [c, l, n, (nn : Int)] _ S3.out (by omega) H4.out).mono ?_
              rintro x w4 ⟨⟨fa, fc, fg, rfl, hO⟩, b⟩
              replace KB : Hid (Below w.heap.size w w4) := bel_tr KB.out b
              replace KE : Hid (EdAt w4 w.heap.size zeroE none 0 0) := KE.out.below b
              clear b
              obtain ⟨fb, rfl, f0, f1, f2, f3⟩ := hO.four
              clear hO
              go_wp2
              go_quiet (fail)
              clear f0 f1 f2 f3
              have hdr := below_drewN (Below.refl w4.heap.size w4) nq
              replace KB : Hid (Below w.heap.size w (w4.drewN nq)) := bel_tr KB.out hdr
              replace KE : Hid (EdAt (w4.drewN nq) w.heap.size zeroE none 0 0) := KE.out.below hdr
              clear hdr
              generalize w4.drewN nq = w5 at *
              go_wp2_with fail
              refine (within_val _ _ _ _).mono ?_
              rintro x w6' ⟨rfl, hw6⟩
              subst hw6
              go_wp2_with fail
              refine (takeNumbers_no s7 nn _ S7.out h8 H6.out).mono ?_
              rintro x w6 ⟨rfl, b⟩
              replace KB : Hid (Below w.heap.size w w6) := bel_tr KB.out b
              replace KE : Hid (EdAt w6 w.heap.size zeroE none 0 0) := KE.out.below b
              clear b
              have hE := KE.out
              have q0 := hE.c0
              have q1 := hE.c1
              have q2 := hE.c2
              have q3 := hE.c3
              have q4 := hE.c4
              have q5 := hE.c5
              have q6 := hE.c6
              have qf := hE.fr
              have hz := put7_at hE zeroE none 0 0
              unfold put7 zeroE at hz
              simp only at hz
              have HZ : Hid _ := hz
              have HX : Hid _ := bel_put KB.out (Nat.le_refl _) hz.2
              clear hz hE
              unfold zeroE at q0 q1 q2 q3 q4 q5
              simp only at q0 q1 q2 q3 q4 q5
              go_wp2
              have z0 := HZ.out.1.c0
              have z1 := HZ.out.1.c1
              have z2 := HZ.out.1.c2
              have z3 := HZ.out.1.c3
              have z4 := HZ.out.1.c4
              have z5 := HZ.out.1.c5
              have z6 := HZ.out.1.c6
              exact bodyPost_ret (v := .tuple #[edV zeroE none 0 0, .string ⟨#[]⟩, .int .i64 2]) (by simp [results, edV, zeroE, Try.results21, go_sem, z0, z1, z2, z3, z4, z5, z6]) rfl ⟨rfl, HX.out⟩
            | some y =>
              obtain ⟨ls, r⟩ := y
              rw [takeE_yes h1 h2 h3 g1 g2 g3 g4 h5 h6] at h
              cases h

set_option maxRecDepth 100000 in
set_option maxHeartbeats 4000000 in
theorem take_yes (s r : ByteArray) (e : Ed) (w : World) (hs : s.size ≤ maxLen) (h : takeE s = some (e, r)) :
    Calls Try.prog 21 #[.string s] w fun x w' => TakeR w.heap.size e r x w' ∧ Below w.heap.size w w' := by
  have HS : Hid (s.size ≤ maxLen) := hs
  have KE : Hid (EdAt (w.alloc (.cells #[.int .i64 0, .string ⟨#[]⟩, .string ⟨#[]⟩, .int .i64 0, .int .i64 0, .int .i64 0, .slice none 0 0] 24)) w.heap.size zeroE none 0 0) := EdAt.new w 24 zeroE none 0 0
  have KB : Hid (Below w.heap.size w (w.alloc (.cells #[.int .i64 0, .string ⟨#[]⟩, .string ⟨#[]⟩, .int .i64 0, .int .i64 0, .int .i64 0, .slice none 0 0] 24))) := bel_al _ _
  have hst := run_store_str
  obtain ⟨s1, s2, s3, s4, s5, s6, s7, m, h1, h2, h3, g1, g2, g3, g4, h5, h6⟩ := (takeE_parts h).ex
  obtain ⟨k, p, t, c, l, n, ls⟩ := e
  simp only at h1 h2 h3 g1 g2 g3 h6
  have hm := inB_iff.1 h5
  obtain ⟨nn, rfl⟩ : ∃ nn : Nat, m = (nn : Int) := ⟨m.toNat, by omega⟩
  rw [Int.toNat_natCast] at h6
  have h8 : nn ≤ 8 := by omega
  have H1 : Hid (takeN s = some (k, s1)) := h1
  have H2 : Hid (takeT s1 = some (p, s2)) := h2
  have H3 : Hid (takeT s2 = some (t, s3)) := h3
  have h4 := nums4_of g1 g2 g3 g4
  have H4 : Hid (numsP 4 s3 = some ([c, l, n, (nn : Int)], s7)) := h4
  have H6 : Hid (numsP nn s7 = some (ls, r)) := h6
  have S1 : Hid (s1.size ≤ maxLen) := Nat.le_trans (takeN_size h1) hs
  have S2 : Hid (s2.size ≤ maxLen) := Nat.le_trans (takeT_less h2) S1.out
  have S3 : Hid (s3.size ≤ maxLen) := Nat.le_trans (takeT_less h3) S2.out
  have S7 : Hid (s7.size ≤ maxLen) := Nat.le_trans (numsP_sound _ _ _ _ h4).2.2 S3.out
  clear h h1 h2 h3 h4 hs g1 g2 g3 g4 hm h6
  go_enter Try.func21, Try.ntmps21
  go_wp2_with fail
  refine (takeN_call H1.out _ HS.out).mono ?_
  rintro x w1 ⟨rfl, b⟩
  replace KB : Hid (Below w.heap.size w w1) := bel_tr KB.out b
  replace KE : Hid (EdAt w1 w.heap.size zeroE none 0 0) := KE.out.below b
  clear b
  go_wp2_with fail
  refine (takeText_yes s1 p s2 _ S1.out H2.out).mono ?_
  rintro x w2 ⟨rfl, b⟩
  replace KB : Hid (Below w.heap.size w w2) := bel_tr KB.out b
  replace KE : Hid (EdAt w2 w.heap.size zeroE none 0 0) := KE.out.below b
  clear b
  go_wp2_with fail
  refine (takeText_yes s2 t s3 _ S2.out H3.out).mono ?_
  rintro x w3 ⟨rfl, b⟩
  replace KB : Hid (Below w.heap.size w w3) := bel_tr KB.out b
  replace KE : Hid (EdAt w3 w.heap.size zeroE none 0 0) := KE.out.below b
  clear b
  go_wp2_with fail
  refine (takeNumbers_yes s3 s7 4 [c, l, n, (nn : Int)] _ S3.out (by omega) H4.out).mono ?_
  rintro x w4 ⟨⟨fa, fc, fg, rfl, hO⟩, b⟩
  replace KB : Hid (Below w.heap.size w w4) := bel_tr KB.out b
  replace KE : Hid (EdAt w4 w.heap.size zeroE none 0 0) := KE.out.below b
  clear b
  obtain ⟨fb, rfl, f0, f1, f2, f3⟩ := hO.four
  clear hO
  go_wp2
  go_quiet (fail)
  clear f0 f1 f2 f3
  have hdr := below_drewN (Below.refl w4.heap.size w4) nq
  replace KB : Hid (Below w.heap.size w (w4.drewN nq)) := bel_tr KB.out hdr
  replace KE : Hid (EdAt (w4.drewN nq) w.heap.size zeroE none 0 0) := KE.out.below hdr
  clear hdr
  generalize w4.drewN nq = w5 at *
  go_wp2_with fail
  refine (within_val _ _ _ _).mono ?_
  rintro x w6' ⟨rfl, hw6⟩
  subst hw6
  go_wp2_with fail
  refine (takeNumbers_yes s7 r nn ls _ S7.out h8 H6.out).mono ?_
  rintro x w6 ⟨⟨la, lq, lg, rfl, hL⟩, b⟩
  have hlt : w.heap.size < w6'.heap.size := World.block_lt_of_cell? _ _ KE.out.c0
  have HLT : Hid (w.heap.size < w6'.heap.size) := hlt
  have HL : Hid _ := hL
  replace KB : Hid (Below w.heap.size w w6) := bel_tr KB.out b
  replace KE : Hid (EdAt w6 w.heap.size zeroE none 0 0) := KE.out.below b
  clear b
  have hE := KE.out
  have q0 := hE.c0
  have q1 := hE.c1
  have q2 := hE.c2
  have q3 := hE.c3
  have q4 := hE.c4
  have q5 := hE.c5
  have q6 := hE.c6
  have qf := hE.fr
  have hz := put7_at hE ⟨k, p, t, c, l, n, ls⟩ la nn lq
  unfold put7 at hz
  simp only at hz
  have HZ : Hid _ := hz
  have HX : Hid _ := bel_put KB.out (Nat.le_refl _) hz.2
  have HN : Hid _ := (hL.stay hz.2 (fun k' hk e => by have := (hL.own k' hk).2; omega)).mono (Nat.le_of_lt hlt)
  clear hz hE hL hlt
  unfold zeroE at q0 q1 q2 q3 q4 q5
  simp only at q0 q1 q2 q3 q4 q5
  go_wp2
  have z0 := HZ.out.1.c0
  have z1 := HZ.out.1.c1
  have z2 := HZ.out.1.c2
  have z3 := HZ.out.1.c3
  have z4 := HZ.out.1.c4
  have z5 := HZ.out.1.c5
  have z6 := HZ.out.1.c6
  exact bodyPost_ret (v := .tuple #[edV ⟨k, p, t, c, l, n, ls⟩ la nn lq, .string r, .int .i64 0]) (by simp [results, edV, Try.results21, go_sem, z0, z1, z2, z3, z4, z5, z6]) rfl ⟨⟨_, _, _, _, rfl, HN.out⟩, HX.out⟩

end Go.Proofs.Ytlinlbfiheoniaa.Edi
