/- RetryState: for every two edits and every answer: the statement's function returns true; nothing that was there is changed. No condition. -/
import Derived.Test.YtpbbfbdophabnaaRetryS2
import Derived.Test.YtpbbfbdophabnaaRetryL1
import Derived.Test.YtpbbfbdophabnaaRetryL2
import Derived.Test.YtpbbfbdophabnaaRetryP
import Derived.Test.YtpbbfbdophabnaaRetryOpen
namespace Go.Proofs.Ytpbbfbdophabnaa.retryState
open Go.ChangeShapes Go.WideShapes Go.ChangeAt Go.RowKit Go.Proofs.Ytpbbfbdophabnaa Go.Proofs.Ytpbbfbdophabnaa.Edi Go.Proofs.Ytpbbfbdophabnaa.Rty
set_option linter.unusedVariables false

theorem own : ownKnob Try.prog.godebug = none := by kernel_rfl

theorem one_len (p : Ed × Ans) : ([p] : CL).length = 1 := rfl

set_option maxRecDepth 100000 in
set_option maxHeartbeats 16000000 in
theorem core {e f : Ed} {a a2 : Option Addr} {m q m2 q2 : Nat} {x : Ans} {s : Sls} (w : World) (hE : Nm w a m e.ls) (hF : Nm w a2 m2 f.ls) (hA : AnIn (fun b => b < w.heap.size) w x s) (ic : In64 e.c) (il : In64 e.l) :
    Calls Try.prog 6 #[edV e a m q, edV f a2 m2 q2, anV x s] w fun y w' => y = .returned (.bool true) ∧ Below w.heap.size w w' := by
  obtain ⟨G, hG⟩ : ∃ G : Ed, G = { f with c := e.c, l := e.l } := ⟨_, rfl⟩
  have hGF : Nm w a2 m2 G.ls := by rw [hG]; exact hF
  have HGc : Hid (G.c = e.c ∧ G.l = e.l) := by rw [hG]; exact ⟨rfl, rfl⟩
  obtain ⟨E, x1, cE, hE1⟩ := enc_any e
  obtain ⟨F, x2', cF, hF1⟩ := enc_any G
  have CE : Hid (∀ W, Below w.heap.size w W → Calls Try.prog 18 #[edV e a m q] W fun y w' => y = .returned (.tuple #[.string E, .int .i64 x1]) ∧ Below W.heap.size W w') := fun W hb => cE W a m q (hE.below hb)
  have CF : Hid (∀ W, Below w.heap.size w W → Calls Try.prog 18 #[edV G a2 m2 q2] W fun y w' => y = .returned (.tuple #[.string F, .int .i64 x2']) ∧ Below W.heap.size W w') := fun W hb => cF W a2 m2 q2 (hGF.below hb)
  -- the first call
  obtain ⟨er, A', hp⟩ := putE_ex [] e.c e.l e x
  have CP : Hid (∀ L W cb, Sep w L W (Cac cb [] 0) Non → Calls Try.prog 10 #[.pointer (some ⟨cb, 0, none⟩), .int .i64 e.c, .int .i64 e.l, edV e a m q, anV x s] W fun y w' => y = .returned (.int .i64 er) ∧ Sep w L w' (Cac cb A' 1) Non) := fun L W cb h => s_put h stNon (by omega) (hE.below h.bel) ((hA.below h.bel)) hp
  have HCS : Hid ((er = 1 ∧ A' = [] ∧ ¬ Rt e) ∨ (er = 0 ∧ A' = [(e, x)] ∧ Rt e)) := by
    cases hp with
    | arg hb => exact .inl ⟨rfl, rfl, hb.elim id (fun h => h.elim (fun h => absurd rfl h) (fun h => absurd rfl h))⟩
    | state p _ _ _ hl _ => cases hl
    | ok hr _ _ _ => exact .inr ⟨rfl, putA_nil e x, hr⟩
  have CG0 : Hid (∀ L W cb, Sep w L W (Cac cb [] 1) Non → Calls Try.prog 12 #[.pointer (some ⟨cb, 0, none⟩), .int .i64 e.c, .int .i64 e.l, edV e a m q] W fun y w' => GetR W.heap.size none 0 y w' ∧ Sep w L w' (Cac cb [] 1) Non) := fun L W cb h => s_get h stNon (hE.below h.bel) ic il none 0 (getA_none rfl)
  have hlk : lookA [(e, x)] e.c e.l = some (e, x) := lookA_one e x
  obtain ⟨o, eg, hg⟩ : ∃ o eg, getA [(e, x)] e.c e.l G = (o, eg) := ⟨_, _, rfl⟩
  have CG1 : Hid (∀ L W cb, Sep w L W (Cac cb [(e, x)] 1) Non → Calls Try.prog 12 #[.pointer (some ⟨cb, 0, none⟩), .int .i64 e.c, .int .i64 e.l, edV G a2 m2 q2] W fun y w' => GetR W.heap.size o eg y w' ∧ Sep w L w' (Cac cb [(e, x)] 1) Non) := fun L W cb h => s_get h stNon (hGF.below h.bel) ic il o eg hg
  obtain ⟨er2, A2, hp2⟩ := putE_ex [(e, x)] e.c e.l G (anP 1)
  have CP2 : Hid (∀ L W cb, Sep w L W (Cac cb [(e, x)] 1) Non → Calls Try.prog 10 #[.pointer (some ⟨cb, 0, none⟩), .int .i64 e.c, .int .i64 e.l, edV G a2 m2 q2, .agg #[.int .i64 0, .int .i64 0, .int .i64 0, .int .i64 0, .slice none 0 0, .string ⟨#[]⟩, .bool false, .int .i64 0, .slice none 0 0, .int .i64 0, .int .i64 1]] W fun y w' => y = .returned (.int .i64 er2) ∧ Sep w L w' (Cac cb A2 2) Non) := fun L W cb h => s_put (x := anP 1) (s := ⟨none, 0, none, 0⟩) h stNon (by omega) (hGF.below h.bel) (anP_in _ _ _ _) hp2
  have HSAME : Hid (G = e ∧ o = some x ∧ eg = 0 ∨ G ≠ e ∧ o = none ∧ eg = 14) := by
    by_cases h : e = G
    · rw [← h, getA_yes hlk] at hg
      cases hg
      exact .inl ⟨h.symm, rfl, rfl⟩
    · rw [getA_no hlk h] at hg
      cases hg
      exact .inr ⟨fun h2 => h h2.symm, rfl, rfl⟩
  have HP2 : Hid (G ≠ e → (er2 = 1 ∨ er2 = 14) ∧ A2 = [(e, x)]) := fun h => by
    cases hp2 with
    | arg hb => exact ⟨.inl rfl, rfl⟩
    | state p _ _ _ _ _ => exact ⟨.inr rfl, rfl⟩
    | ok hr h1 h2 h3 => exact absurd (h3 (e, x) hlk).symm h
  have HENC : Hid (Rt e → (x1 = 0) ∧ ((G = e → x2' = 0 ∧ (E.toList == F.toList) = true) ∧ (G ≠ e → x2' = 1 ∨ x2' = 0 ∧ (E.toList == F.toList) = false))) := fun hr => by
    rcases hE1 with ⟨h1, _, h2⟩ | ⟨_, h1⟩
    · refine ⟨h1, fun hge => ?_, fun hge => ?_⟩
      · rcases hF1 with ⟨h3, _, h4⟩ | ⟨_, h3⟩
        · exact ⟨h3, by rw [same_eq, ← h2, ← h4, hge]; simp⟩
        · exact absurd (hge ▸ hr) h3
      · rcases hF1 with ⟨h3, h5, h4⟩ | ⟨h3, _⟩
        · exact .inr ⟨h3, by rw [same_eq, ← h2, ← h4]; exact decide_eq_false (fun h6 => hge (enc_inj hr h5 h6).symm)⟩
        · exact .inl h3
    · exact absurd hr h1
  have CA : Hid (∀ L W s' g1 g2 cb A n base, Sep w L W (Cac cb A n) Non → AnOwn base W x s' g1 g2 → Calls Try.prog 14 #[anV x s, anV x s'] W fun y w' => y = .returned (.bool true) ∧ Below W.heap.size W w') := fun L W s' g1 g2 cb A n base h ho => answers_same (hA.below h.bel) ho.into
  clear hE hF hA hp hp2 hlk hg hE1 hF1 cE cF hGF ic il
  obtain ⟨k, p, t, c, l, n, ls⟩ := e
  obtain ⟨k2, p2, t2, c2, l2, n2, ls2⟩ := f
  subst hG
  obtain ⟨err, ⟨b1, b2, b3⟩, names, path, dir, quota, blocks, writer, nn⟩ := x
  obtain ⟨x1', y1, x2'', y2⟩ := s
  simp only at HGc
  unfold edV at CE CF CP CG0 CG1 CP2 ⊢
  unfold anV at CP CA ⊢
  simp only at CE CF CP CG0 CG1 CP2 CA HCS HSAME HP2 HENC ⊢
  obtain ⟨N1, hN1⟩ : ∃ N, names.length = N := ⟨_, rfl⟩
  obtain ⟨N2, hN2⟩ : ∃ N, blocks.length = N := ⟨_, rfl⟩
  rw [hN1, hN2] at CP CA ⊢
  have HN1 : Hid (names.length = N1) := hN1
  have HN2 : Hid (blocks.length = N2) := hN2
  clear hN1 hN2
  have KL : Hid (∀ W, Below (((w.alloc (.cells #[.int .i64 k, .string p, .string t, .int .i64 c, .int .i64 l, .int .i64 n, .slice a m q] 32)).alloc (.cells #[.int .i64 k2, .string p2, .string t2, .int .i64 c2, .int .i64 l2, .int .i64 n2, .slice a2 m2 q2] 32)).alloc (.cells #[.int .i64 err, .int .i64 b1, .int .i64 b2, .int .i64 b3, .slice x1' N1 y1, .string path, .bool dir, .int .i64 quota, .slice x2'' N2 y2, .int .i64 writer, .int .i64 nn] 41)).heap.size (((w.alloc (.cells #[.int .i64 k, .string p, .string t, .int .i64 c, .int .i64 l, .int .i64 n, .slice a m q] 32)).alloc (.cells #[.int .i64 k2, .string p2, .string t2, .int .i64 c2, .int .i64 l2, .int .i64 n2, .slice a2 m2 q2] 32)).alloc (.cells #[.int .i64 err, .int .i64 b1, .int .i64 b2, .int .i64 b3, .slice x1' N1 y1, .string path, .bool dir, .int .i64 quota, .slice x2'' N2 y2, .int .i64 writer, .int .i64 nn] 41)) W → ∀ r ∈ [(w.heap.size + 1, [.int .i64 k2, .string p2, .string t2, .int .i64 c2, .int .i64 l2, .int .i64 n2, .slice a2 m2 q2]), (w.heap.size, [.int .i64 k, .string p, .string t, .int .i64 c, .int .i64 l, .int .i64 n, .slice a m q]), (w.heap.size + 1 + 1, [.int .i64 err, .int .i64 b1, .int .i64 b2, .int .i64 b3, .slice x1' N1 y1, .string path, .bool dir, .int .i64 quota, .slice x2'' N2 y2, .int .i64 writer, .int .i64 nn])], w.heap.size ≤ r.1 ∧ Cells W r.1 r.2) := fun W hb r hr => by
    simp only [List.mem_cons, List.not_mem_nil, or_false] at hr
    rcases hr with rfl | rfl | rfl
    · exact ⟨by show w.heap.size ≤ w.heap.size + 1; omega, ((cells2 _ _ _ _).below (bel_al _ _)).below hb⟩
    · exact ⟨Nat.le_refl _, (((Cells.new _ _ _).below (bel_al _ _)).below (bel_al _ _)).below hb⟩
    · exact ⟨by show w.heap.size ≤ w.heap.size + 1 + 1; omega, (cells3 _ _ _ _ _).below hb⟩
  go_enter Try.func6, Try.ntmps6
  go_wp2_with fail
  refine (examples13_val _).mono ?_
  rintro y w1 ⟨rfl, bb1⟩
  have B1 : Hid (Below w.heap.size w w1) := bel_tr (bel_tr (bel_tr (bel_al _ _) (bel_al _ _)) (bel_al _ _)) bb1
  have KL1 : Hid _ := KL.out w1 bb1
  clear bb1 KL
  go_wp2_with fail
  refine (s_newL [(w.heap.size + 1, [.int .i64 k2, .string p2, .string t2, .int .i64 c2, .int .i64 l2, .int .i64 n2, .slice a2 m2 q2]), (w.heap.size, [.int .i64 k, .string p, .string t, .int .i64 c, .int .i64 l, .int .i64 n, .slice a m q]), (w.heap.size + 1 + 1, [.int .i64 err, .int .i64 b1, .int .i64 b2, .int .i64 b3, .slice x1' N1 y1, .string path, .bool dir, .int .i64 quota, .slice x2'' N2 y2, .int .i64 writer, .int .i64 nn])] B1.out KL1.out).mono ?_
  rintro y w2 ⟨rfl, h⟩
  obtain ⟨cb, hcb⟩ : ∃ cb, w1.heap.size + 1 = cb := ⟨_, rfl⟩
  rw [hcb] at h ⊢
  have hf3 := (h.cells (b := w.heap.size + 1) (vs := [.int .i64 k2, .string p2, .string t2, .int .i64 c2, .int .i64 l2, .int .i64 n2, .slice a2 m2 q2]) (by simp)).val 3 _ rfl
  have hf4 := (h.cells (b := w.heap.size + 1) (vs := [.int .i64 k2, .string p2, .string t2, .int .i64 c2, .int .i64 l2, .int .i64 n2, .slice a2 m2 q2]) (by simp)).val 4 _ rfl
  have fr3 := (h.cells (b := w.heap.size + 1) (vs := [.int .i64 k2, .string p2, .string t2, .int .i64 c2, .int .i64 l2, .int .i64 n2, .slice a2 m2 q2]) (by simp)).fr 3
  have fr4 := (h.cells (b := w.heap.size + 1) (vs := [.int .i64 k2, .string p2, .string t2, .int .i64 c2, .int .i64 l2, .int .i64 n2, .slice a2 m2 q2]) (by simp)).fr 4
  have KE2 := h.cells (b := w.heap.size) (vs := [.int .i64 k, .string p, .string t, .int .i64 c, .int .i64 l, .int .i64 n, .slice a m q]) (by simp)
  have e2_0 := KE2.val 0 _ rfl
  have e2_1 := KE2.val 1 _ rfl
  have e2_2 := KE2.val 2 _ rfl
  have e2_3 := KE2.val 3 _ rfl
  have e2_4 := KE2.val 4 _ rfl
  have e2_5 := KE2.val 5 _ rfl
  have e2_6 := KE2.val 6 _ rfl
  have KA2 := h.cells (b := w.heap.size + 1 + 1) (vs := [.int .i64 err, .int .i64 b1, .int .i64 b2, .int .i64 b3, .slice x1' N1 y1, .string path, .bool dir, .int .i64 quota, .slice x2'' N2 y2, .int .i64 writer, .int .i64 nn]) (by simp)
  have x2_0 := KA2.val 0 _ rfl
  have x2_1 := KA2.val 1 _ rfl
  have x2_2 := KA2.val 2 _ rfl
  have x2_3 := KA2.val 3 _ rfl
  have x2_4 := KA2.val 4 _ rfl
  have x2_5 := KA2.val 5 _ rfl
  have x2_6 := KA2.val 6 _ rfl
  have x2_7 := KA2.val 7 _ rfl
  have x2_8 := KA2.val 8 _ rfl
  have x2_9 := KA2.val 9 _ rfl
  have x2_10 := KA2.val 10 _ rfl
  have H2 : Hid (Sep w [(w.heap.size + 1, [.int .i64 k2, .string p2, .string t2, .int .i64 c, .int .i64 l, .int .i64 n2, .slice a2 m2 q2]), (w.heap.size, [.int .i64 k, .string p, .string t, .int .i64 c, .int .i64 l, .int .i64 n, .slice a m q]), (w.heap.size + 1 + 1, [.int .i64 err, .int .i64 b1, .int .i64 b2, .int .i64 b3, .slice x1' N1 y1, .string path, .bool dir, .int .i64 quota, .slice x2'' N2 y2, .int .i64 writer, .int .i64 nn])] ((w2.setCell ⟨w.heap.size + 1, 3, none⟩ (.int .i64 c)).setCell ⟨w.heap.size + 1, 4, none⟩ (.int .i64 l)) (Cac cb [] 0) Non) := by
    have h1 := h.setL (i := 3) (v := .int .i64 c) (stCac _ _ _) stNon (by simp) (fun q hq => by simp only [List.mem_cons, List.not_mem_nil, or_false] at hq; rcases hq with rfl | rfl <;> simp)
    have h2 := h1.setL (i := 4) (v := .int .i64 l) (stCac _ _ _) stNon (by simp) (fun q hq => by simp only [List.mem_cons, List.not_mem_nil, or_false] at hq; rcases hq with rfl | rfl <;> simp)
    simp only [List.set_cons_succ, List.set_cons_zero] at h2
    exact h2
  clear h KE2 KA2 hcb KL1
  go_wp2_with fail
  refine (CP.out _ _ _ H2.out).mono ?_
  rintro y w3 ⟨rfl, h⟩
  have H3 : Hid (Sep w [(w.heap.size + 1, [.int .i64 k2, .string p2, .string t2, .int .i64 c, .int .i64 l, .int .i64 n2, .slice a2 m2 q2]), (w.heap.size, [.int .i64 k, .string p, .string t, .int .i64 c, .int .i64 l, .int .i64 n, .slice a m q]), (w.heap.size + 1 + 1, [.int .i64 err, .int .i64 b1, .int .i64 b2, .int .i64 b3, .slice x1' N1 y1, .string path, .bool dir, .int .i64 quota, .slice x2'' N2 y2, .int .i64 writer, .int .i64 nn])] w3 (Cac cb A' 1) Non) := h
  have KE3 := h.cells (b := w.heap.size) (vs := [.int .i64 k, .string p, .string t, .int .i64 c, .int .i64 l, .int .i64 n, .slice a m q]) (by simp)
  clear e2_0 e2_1 e2_2 e2_3 e2_4 e2_5 e2_6 x2_0 x2_1 x2_2 x2_3 x2_4 x2_5 x2_6 x2_7 x2_8 x2_9 x2_10 hf3 hf4 fr3 fr4 H2 h CP
  have e3_0 := KE3.val 0 _ rfl
  have e3_1 := KE3.val 1 _ rfl
  have e3_2 := KE3.val 2 _ rfl
  have e3_3 := KE3.val 3 _ rfl
  have e3_4 := KE3.val 4 _ rfl
  have e3_5 := KE3.val 5 _ rfl
  have e3_6 := KE3.val 6 _ rfl
  clear KE3
  rcases HCS.out with ⟨rfl, rfl, hnr⟩ | ⟨rfl, rfl, hrt⟩
  · clear HENC HSAME HP2 CE CF CG1 CP2 CA hnr
    go_wp2_with fail
    refine (CG0.out _ _ _ H3.out).mono ?_
    rintro y w4 ⟨⟨s9, ga, gb, rfl, -⟩, h⟩
    unfold anV zeroA
    simp only [Option.getD_none, Option.isSome_none]
    have H4 : Hid (Sep w [(w.heap.size + 1, [.int .i64 k2, .string p2, .string t2, .int .i64 c, .int .i64 l, .int .i64 n2, .slice a2 m2 q2]), (w.heap.size, [.int .i64 k, .string p, .string t, .int .i64 c, .int .i64 l, .int .i64 n, .slice a m q]), (w.heap.size + 1 + 1, [.int .i64 err, .int .i64 b1, .int .i64 b2, .int .i64 b3, .slice x1' N1 y1, .string path, .bool dir, .int .i64 quota, .slice x2'' N2 y2, .int .i64 writer, .int .i64 nn])] (w4.alloc (.cells #[.int .i64 0, .int .i64 0, .int .i64 0, .int .i64 0, .slice s9.a1 0 s9.c1, .string ⟨#[]⟩, .bool false, .int .i64 0, .slice s9.a2 0 s9.c2, .int .i64 0, .int .i64 0] 41)) (Cac cb [] 1) Non) := h.below (stCac _ _ _) stNon (bel_al _ _)
    clear h CG0 H3 e3_0 e3_1 e3_2 e3_3 e3_4 e3_5 e3_6
    go_wp2_with (go_at_call 17; refine (s_len H4.out 0 rfl).mono ?_; rintro y w7 ⟨rfl, rfl⟩)
    go_ret
    exact ⟨rfl, H4.out.bel⟩
  · obtain ⟨rfl, HS1, HS2⟩ := HENC.out hrt
    have HS1' : Hid _ := HS1
    have HS2' : Hid _ := HS2
    clear HENC HS1 HS2 CG0 hrt
    go_wp2_with fail
    refine (CE.out _ H3.out.bel).mono ?_
    rintro y w4 ⟨rfl, bb⟩
    have H4 : Hid (Sep w [(w.heap.size + 1, [.int .i64 k2, .string p2, .string t2, .int .i64 c, .int .i64 l, .int .i64 n2, .slice a2 m2 q2]), (w.heap.size, [.int .i64 k, .string p, .string t, .int .i64 c, .int .i64 l, .int .i64 n, .slice a m q]), (w.heap.size + 1 + 1, [.int .i64 err, .int .i64 b1, .int .i64 b2, .int .i64 b3, .slice x1' N1 y1, .string path, .bool dir, .int .i64 quota, .slice x2'' N2 y2, .int .i64 writer, .int .i64 nn])] w4 (Cac cb [((⟨k, p, t, c, l, n, ls⟩ : Ed), (⟨err, ⟨b1, b2, b3⟩, names, path, dir, quota, blocks, writer, nn⟩ : Ans))] 1) Non) := H3.out.below (stCac _ _ _) stNon bb
    have KF4 := H4.out.cells (b := w.heap.size + 1) (vs := [.int .i64 k2, .string p2, .string t2, .int .i64 c, .int .i64 l, .int .i64 n2, .slice a2 m2 q2]) (by simp)
    clear bb H3 e3_0 e3_1 e3_2 e3_3 e3_4 e3_5 e3_6 CE
    have f4_0 := KF4.val 0 _ rfl
    have f4_1 := KF4.val 1 _ rfl
    have f4_2 := KF4.val 2 _ rfl
    have f4_3 := KF4.val 3 _ rfl
    have f4_4 := KF4.val 4 _ rfl
    have f4_5 := KF4.val 5 _ rfl
    have f4_6 := KF4.val 6 _ rfl
    clear KF4
    go_wp2_with fail
    refine (CF.out _ H4.out.bel).mono ?_
    rintro y w5 ⟨rfl, bb⟩
    have H5 : Hid (Sep w [(w.heap.size + 1, [.int .i64 k2, .string p2, .string t2, .int .i64 c, .int .i64 l, .int .i64 n2, .slice a2 m2 q2]), (w.heap.size, [.int .i64 k, .string p, .string t, .int .i64 c, .int .i64 l, .int .i64 n, .slice a m q]), (w.heap.size + 1 + 1, [.int .i64 err, .int .i64 b1, .int .i64 b2, .int .i64 b3, .slice x1' N1 y1, .string path, .bool dir, .int .i64 quota, .slice x2'' N2 y2, .int .i64 writer, .int .i64 nn])] w5 (Cac cb [((⟨k, p, t, c, l, n, ls⟩ : Ed), (⟨err, ⟨b1, b2, b3⟩, names, path, dir, quota, blocks, writer, nn⟩ : Ans))] 1) Non) := H4.out.below (stCac _ _ _) stNon bb
    have KF5 := H5.out.cells (b := w.heap.size + 1) (vs := [.int .i64 k2, .string p2, .string t2, .int .i64 c, .int .i64 l, .int .i64 n2, .slice a2 m2 q2]) (by simp)
    have KE5 := H5.out.cells (b := w.heap.size) (vs := [.int .i64 k, .string p, .string t, .int .i64 c, .int .i64 l, .int .i64 n, .slice a m q]) (by simp)
    clear bb H4 f4_0 f4_1 f4_2 f4_3 f4_4 f4_5 f4_6 CF
    have f5_0 := KF5.val 0 _ rfl
    have f5_1 := KF5.val 1 _ rfl
    have f5_2 := KF5.val 2 _ rfl
    have f5_3 := KF5.val 3 _ rfl
    have f5_4 := KF5.val 4 _ rfl
    have f5_5 := KF5.val 5 _ rfl
    have f5_6 := KF5.val 6 _ rfl
    have e5_0 := KE5.val 0 _ rfl
    have e5_1 := KE5.val 1 _ rfl
    have e5_2 := KE5.val 2 _ rfl
    have e5_3 := KE5.val 3 _ rfl
    have e5_4 := KE5.val 4 _ rfl
    have e5_5 := KE5.val 5 _ rfl
    have e5_6 := KE5.val 6 _ rfl
    clear KF5 KE5
    go_wp2_with fail
    refine (CG1.out _ _ _ H5.out).mono ?_
    rintro y w6 ⟨⟨s9, ga, gb, rfl, hOwn⟩, h⟩
    have H6 : Hid (Sep w [(w.heap.size + 1, [.int .i64 k2, .string p2, .string t2, .int .i64 c, .int .i64 l, .int .i64 n2, .slice a2 m2 q2]), (w.heap.size, [.int .i64 k, .string p, .string t, .int .i64 c, .int .i64 l, .int .i64 n, .slice a m q]), (w.heap.size + 1 + 1, [.int .i64 err, .int .i64 b1, .int .i64 b2, .int .i64 b3, .slice x1' N1 y1, .string path, .bool dir, .int .i64 quota, .slice x2'' N2 y2, .int .i64 writer, .int .i64 nn])] w6 (Cac cb [((⟨k, p, t, c, l, n, ls⟩ : Ed), (⟨err, ⟨b1, b2, b3⟩, names, path, dir, quota, blocks, writer, nn⟩ : Ans))] 1) Non) := h
    clear h H5 f5_0 f5_1 f5_2 f5_3 f5_4 f5_5 f5_6 e5_0 e5_1 e5_2 e5_3 e5_4 e5_5 e5_6 CG1
    rcases HSAME.out with ⟨hG, rfl, rfl⟩ | ⟨hG, rfl, rfl⟩
    · obtain ⟨rfl, hEF⟩ := HS1'.out hG
      simp only [Option.getD_some, Option.isSome_some] at hOwn ⊢
      unfold anV
      simp only
      rw [HN1.out, HN2.out]
      have H7 : Hid (Sep w [(w.heap.size + 1, [.int .i64 k2, .string p2, .string t2, .int .i64 c, .int .i64 l, .int .i64 n2, .slice a2 m2 q2]), (w.heap.size, [.int .i64 k, .string p, .string t, .int .i64 c, .int .i64 l, .int .i64 n, .slice a m q]), (w.heap.size + 1 + 1, [.int .i64 err, .int .i64 b1, .int .i64 b2, .int .i64 b3, .slice x1' N1 y1, .string path, .bool dir, .int .i64 quota, .slice x2'' N2 y2, .int .i64 writer, .int .i64 nn])] (w6.alloc (.cells #[.int .i64 err, .int .i64 b1, .int .i64 b2, .int .i64 b3, .slice s9.a1 N1 s9.c1, .string path, .bool dir, .int .i64 quota, .slice s9.a2 N2 s9.c2, .int .i64 writer, .int .i64 nn] 41)) (Cac cb [((⟨k, p, t, c, l, n, ls⟩ : Ed), (⟨err, ⟨b1, b2, b3⟩, names, path, dir, quota, blocks, writer, nn⟩ : Ans))] 1) Non) := H6.out.below (stCac _ _ _) stNon (bel_al _ _)
      have HO : Hid (AnOwn w5.heap.size (w6.alloc (.cells #[.int .i64 err, .int .i64 b1, .int .i64 b2, .int .i64 b3, .slice s9.a1 N1 s9.c1, .string path, .bool dir, .int .i64 quota, .slice s9.a2 N2 s9.c2, .int .i64 writer, .int .i64 nn] 41)) ⟨err, ⟨b1, b2, b3⟩, names, path, dir, quota, blocks, writer, nn⟩ s9 ga gb) := hOwn.below (bel_al _ _)
      have KA7 := H7.out.cells (b := w.heap.size + 1 + 1) (vs := [.int .i64 err, .int .i64 b1, .int .i64 b2, .int .i64 b3, .slice x1' N1 y1, .string path, .bool dir, .int .i64 quota, .slice x2'' N2 y2, .int .i64 writer, .int .i64 nn]) (by simp)
      have x7_0 := KA7.val 0 _ rfl
      have x7_1 := KA7.val 1 _ rfl
      have x7_2 := KA7.val 2 _ rfl
      have x7_3 := KA7.val 3 _ rfl
      have x7_4 := KA7.val 4 _ rfl
      have x7_5 := KA7.val 5 _ rfl
      have x7_6 := KA7.val 6 _ rfl
      have x7_7 := KA7.val 7 _ rfl
      have x7_8 := KA7.val 8 _ rfl
      have x7_9 := KA7.val 9 _ rfl
      have x7_10 := KA7.val 10 _ rfl
      clear KA7 HSAME HS1' HS2' hOwn hG HP2 CP2 H6
      go_wp2_with fail
      refine (CA.out _ _ s9 ga gb cb _ 1 _ H7.out HO.out).mono ?_
      rintro y w8 ⟨rfl, bb⟩
      have B8 : Hid (Below w.heap.size w w8) := bel_tr H7.out.bel bb
      clear bb
      go_wp2
      go_ret
      exact ⟨rfl, B8.out⟩
    · obtain ⟨hne2, rfl⟩ := HP2.out hG
      simp only [Option.getD_none, Option.isSome_none]
      unfold anV zeroA
      simp only
      have hcs := HS2'.out hG
      have H7 : Hid (Sep w [(w.heap.size + 1, [.int .i64 k2, .string p2, .string t2, .int .i64 c, .int .i64 l, .int .i64 n2, .slice a2 m2 q2]), (w.heap.size, [.int .i64 k, .string p, .string t, .int .i64 c, .int .i64 l, .int .i64 n, .slice a m q]), (w.heap.size + 1 + 1, [.int .i64 err, .int .i64 b1, .int .i64 b2, .int .i64 b3, .slice x1' N1 y1, .string path, .bool dir, .int .i64 quota, .slice x2'' N2 y2, .int .i64 writer, .int .i64 nn])] (w6.alloc (.cells #[.int .i64 0, .int .i64 0, .int .i64 0, .int .i64 0, .slice s9.a1 0 s9.c1, .string ⟨#[]⟩, .bool false, .int .i64 0, .slice s9.a2 0 s9.c2, .int .i64 0, .int .i64 0] 41)) (Cac cb [((⟨k, p, t, c, l, n, ls⟩ : Ed), (⟨err, ⟨b1, b2, b3⟩, names, path, dir, quota, blocks, writer, nn⟩ : Ans))] 1) Non) := H6.out.below (stCac _ _ _) stNon (bel_al _ _)
      have KF7 := H7.out.cells (b := w.heap.size + 1) (vs := [.int .i64 k2, .string p2, .string t2, .int .i64 c, .int .i64 l, .int .i64 n2, .slice a2 m2 q2]) (by simp)
      have f7_0 := KF7.val 0 _ rfl
      have f7_1 := KF7.val 1 _ rfl
      have f7_2 := KF7.val 2 _ rfl
      have f7_3 := KF7.val 3 _ rfl
      have f7_4 := KF7.val 4 _ rfl
      have f7_5 := KF7.val 5 _ rfl
      have f7_6 := KF7.val 6 _ rfl
      clear KF7 HSAME HS1' HS2' hOwn hG HP2 H6
      rcases hne2 with rfl | rfl <;> rcases hcs with rfl | ⟨rfl, hEF⟩
      all_goals
        go_wp2_with fail
        refine (CP2.out _ _ _ H7.out).mono ?_
        rintro y w8 ⟨rfl, h⟩
        have H8 : Hid (Sep w [(w.heap.size + 1, [.int .i64 k2, .string p2, .string t2, .int .i64 c, .int .i64 l, .int .i64 n2, .slice a2 m2 q2]), (w.heap.size, [.int .i64 k, .string p, .string t, .int .i64 c, .int .i64 l, .int .i64 n, .slice a m q]), (w.heap.size + 1 + 1, [.int .i64 err, .int .i64 b1, .int .i64 b2, .int .i64 b3, .slice x1' N1 y1, .string path, .bool dir, .int .i64 quota, .slice x2'' N2 y2, .int .i64 writer, .int .i64 nn])] w8 (Cac cb [((⟨k, p, t, c, l, n, ls⟩ : Ed), (⟨err, ⟨b1, b2, b3⟩, names, path, dir, quota, blocks, writer, nn⟩ : Ans))] 2) Non) := h
        clear h H7 f7_0 f7_1 f7_2 f7_3 f7_4 f7_5 f7_6
        go_wp2_with (go_at_call 17; refine (s_len H8.out 1 rfl).mono ?_; rintro y w9 ⟨rfl, rfl⟩)
        go_ret
        exact ⟨rfl, H8.out.bel⟩

theorem walk (e0 : Ed) (a0 : Option Addr) (m0 c0 : Nat) (e1 : Ed) (a1 : Option Addr) (m1 c1 : Nat) (e2 : Ans) (a2 : Sls) (W : World) (w0 : Nm W a0 m0 e0.ls ∧ In64 e0.k ∧ In64 e0.c ∧ In64 e0.l ∧ In64 e0.n) (w1 : Nm W a1 m1 e1.ls ∧ In64 e1.k ∧ In64 e1.c ∧ In64 e1.l ∧ In64 e1.n) (w2 : AnGot W e2 a2) (z2 : e2.names.length * 16 ≤ reachBytes ∧ e2.blocks.length * 24 ≤ reachBytes) :
    Calls Try.prog 6 #[edV e0 a0 m0 c0, edV e1 a1 m1 c1, anV e2 a2] W fun x w' => x = .returned (.bool true) ∧ Below W.heap.size W w' := core W w0.1 w1.1 (w2.into z2) w0.2.2.1 w0.2.2.2.1

set_option maxRecDepth 100000 in
theorem lifted (os : Os) (started : os.Started) (H : Type) (enc : TypeId × Value → H) :
    ReturnsInHanded {} Try.checked os 6 .any (Rows.retryStateSpec.pre6 enc Try.prog Try.f6 Rows.retryStateRow.domain false) (Rows.retryStateSpec.post enc Try.prog Try.f6 false true false false) := by
  refine returnsInHanded_of_change_sized (C := Try.checked) own started (by kernel_rfl) Try.func6
    (ChangeSpec.witness6 (enc := enc) (C := Try.checked) false ⟨#[], #[.agg #[.int .i64 0, .string ByteArray.empty, .string ByteArray.empty, .int .i64 0, .int .i64 0, .int .i64 0, .slice none 0 0], .agg #[.int .i64 0, .string ByteArray.empty, .string ByteArray.empty, .int .i64 0, .int .i64 0, .int .i64 0, .slice none 0 0], .agg #[.int .i64 0, .int .i64 0, .int .i64 0, .int .i64 0, .slice none 0 0, .string ByteArray.empty, .bool false, .int .i64 0, .slice none 0 0, .int .i64 0, .int .i64 0]], []⟩ 8 (by kernel_rfl) (by kernel_rfl) (by kernel_rfl) (by kernel_rfl)) ?_
  intro W base args ds gs before hval0 hW hcnd hsz0 _
  have hval : ∀ (j : Nat) t v, Try.f6.params[j]? = some t → args[j]? = some v → Value.okWide Try.prog W .any base t v := hval0
  have hW' := hW
  obtain ⟨p, q, hA0, hV, rfl, hfz, hnd⟩ := hW
  have hA : DataW.TrodAll enc Try.prog W 0 (fun _ => true) true Try.f6.params.toList args.toList ds p := hA0
  have hsz : (DataW.weightsEach Try.prog (Try.f6.params.toList ++ Rows.retryStateSpec.plain.varTypes Try.prog) (ds ++ gs)).all (· ≤ reachBytes) = true := hsz0
  rw [Try.params6] at hA hval hsz
  obtain ⟨v0, vs0, d0, ds0, p0, q0, hargs, rfl, rfl, h0, r0⟩ := trodAll_cons hA
  obtain ⟨v1, vs1, d1, ds1, p1, q1, rfl, rfl, rfl, h1, r1⟩ := trodAll_cons r0
  obtain ⟨v2, vs2, d2, ds2, p2, q2, rfl, rfl, rfl, h2, r2⟩ := trodAll_cons r1
  obtain ⟨rfl, rfl, rfl⟩ := trodAll_nil r2
  obtain rfl : args = #[v0, v1, v2] := by cases args; simp_all
  obtain ⟨rfl, rfl⟩ := trodVars_none hV
  have k0 := h0
  have lt0 : ∀ x ∈ p0, x.block < W.heap.size := by obtain ⟨m, hm⟩ := k0; exact DataW.trod_lt m _ _ _ hm
  obtain ⟨e0, a0, m0, c0, rfl, w0⟩ := Rty.open_edit2 (hval 0 32 v0 rfl rfl) h0
  have k1 := h1
  have lt1 : ∀ x ∈ p1, x.block < W.heap.size := by obtain ⟨m, hm⟩ := k1; exact DataW.trod_lt m _ _ _ hm
  obtain ⟨e1, a1, m1, c1, rfl, w1⟩ := Rty.open_edit2 (hval 1 32 v1 rfl rfl) h1
  have k2 := h2
  have lt2 : ∀ x ∈ p2, x.block < W.heap.size := by obtain ⟨m, hm⟩ := k2; exact DataW.trod_lt m _ _ _ hm
  obtain ⟨e2, a2, rfl, w2, n2⟩ := Rty.open_answer (hval 2 41 v2 rfl rfl) h2
  have z2 := n2 (fun x hx => by simpa using List.all_eq_true.1 hsz x (DataW.weights_mem_each (j := 2) (t := 41) rfl rfl x hx))
  clear hA0 hval0
  refine (walk e0 a0 m0 c0 e1 a1 m1 c1 e2 a2 W w0 w1 w2 z2).mono fun e W' ⟨he, bel⟩ => ?_
  subst he
  exact ⟨_, rfl, _, _, _, [], _, [], hW', trodAll_mk1 (shut_bool Try.underlying4 _), (trodAll_cons_mk (Below.trod laidOut (by kernel_rfl) (of_decide_eq_true (by kernel_rfl)) k0 bel lt0) (trodAll_cons_mk (Below.trod laidOut (by kernel_rfl) (of_decide_eq_true (by kernel_rfl)) k1 bel lt1) (trodAll_cons_mk (Below.trod laidOut (by kernel_rfl) (of_decide_eq_true (by kernel_rfl)) k2 bel lt2) trodAll_mk0))), rfl, bel.frame _, fun h => by cases h⟩

theorem over : Rows.retryStateRow.holds Try.pinned (OpenSpec.ofChange Rows.retryStateSpec) :=
  OpenClaim.holds_of_wide 6 Try.f6 rfl rfl rfl rfl rfl rfl rfl ⟨rfl, rfl, rfl, rfl, rfl⟩ rfl rfl rfl rfl rfl (by kernel_rfl) Try.func6 (by kernel_rfl)
    (of_decide_eq_true (by kernel_rfl)) (by unfold Func.isWrapper; first | (rw [if_pos (by decide +kernel)]; kernel_rfl) | (rw [if_neg (by decide +kernel)]; exact ⟨rfl, rfl⟩))
    (fun os started H enc _ => lifted os started H enc)
end Go.Proofs.Ytpbbfbdophabnaa.retryState

namespace Go.Proofs.Ytpbbfbdophabnaa
/-- The statement. -/
theorem retryState_holds : Rows.RetryStateSaid := retryState.over
#print axioms retryState_holds
end Go.Proofs.Ytpbbfbdophabnaa
