/- EditApart: for every two edits: the statement's function returns true; nothing that was there is changed. No condition. -/
import Derived.Test.YtlinlbfiheoniaaEditL1
import Derived.Test.YtlinlbfiheoniaaEditL2
import Derived.Test.YtlinlbfiheoniaaEditOpen
namespace Go.Proofs.Ytlinlbfiheoniaa.editApart
open Go.ChangeShapes Go.WideShapes Go.ChangeAt Go.RowKit Go.Proofs.Ytlinlbfiheoniaa Go.Proofs.Ytlinlbfiheoniaa.Edi
set_option linter.unusedVariables false

theorem own : ownKnob Try.prog.godebug = none := by kernel_rfl

/-- What Encode answers, whatever the edit is. -/
theorem enc_any (e : Ed) : ∃ (E : ByteArray) (x : Int), (∀ W a m q, Nm W a m e.ls → Calls Try.prog 8 #[edV e a m q] W fun y w' => y = .returned (.tuple #[.string E, .int .i64 x]) ∧ Below W.heap.size W w') ∧ (x = 0 ∧ Rt e ∧ encS e = E ∨ x = 1 ∧ ¬ Rt e) := by
  by_cases h : Rt e
  · exact ⟨encS e, 0, fun W a m q hn => encode_yes hn h _ rfl, .inl ⟨rfl, h, rfl⟩⟩
  · exact ⟨⟨#[]⟩, 1, fun W a m q hn => encode_no hn h, .inr ⟨rfl, h⟩⟩

theorem bool_eq {P Q : Prop} {a b : Bool} (h1 : a = true ↔ P) (h2 : b = true ↔ Q) (h : P ↔ Q) : (a == b) = true := by
  rw [beq_iff_eq, Bool.eq_iff_iff, h1, h2, h]

set_option maxRecDepth 100000 in
set_option maxHeartbeats 4000000 in
theorem core {e f : Ed} {a a2 : Option Addr} {m q m2 q2 : Nat} (w : World) (h : Nm w a m e.ls) (h2 : Nm w a2 m2 f.ls) :
    Calls Try.prog 5 #[edV e a m q, edV f a2 m2 q2] w fun x w' => x = .returned (.bool true) ∧ Below w.heap.size w w' := by
  obtain ⟨E, x1, cE, hE⟩ := enc_any e
  obtain ⟨F, x2, cF, hF⟩ := enc_any f
  obtain ⟨v, hv⟩ : ∃ v : Bool, v = true ↔ e = f := by
    by_cases hh : e = f
    · exact ⟨true, fun _ => hh, fun _ => rfl⟩
    · exact ⟨false, fun x => (by cases x), fun x => absurd x hh⟩
  have CE : Hid (∀ W, Below w.heap.size w W → Calls Try.prog 8 #[edV e a m q] W fun y w' => y = .returned (.tuple #[.string E, .int .i64 x1]) ∧ Below W.heap.size W w') := fun W hb => cE W a m q (h.below hb)
  have CF : Hid (∀ W, Below w.heap.size w W → Calls Try.prog 8 #[edV f a2 m2 q2] W fun y w' => y = .returned (.tuple #[.string F, .int .i64 x2]) ∧ Below W.heap.size W w') := fun W hb => cF W a2 m2 q2 (h2.below hb)
  have CS : Hid (∀ W, Below w.heap.size w W → Calls Try.prog 12 #[edV e a m q, edV f a2 m2 q2] W fun y w' => y = .returned (.bool v) ∧ Below W.heap.size W w') := fun W hb => same_val (h.below hb) (h2.below hb) v hv
  have HX : Hid ((x1 = 0 ∧ x2 = 0 → ((E.toList == F.toList) == v) = true) ∧ (x1 = 0 ∨ x1 = 1) ∧ (x2 = 0 ∨ x2 = 1)) := by
    refine ⟨fun hh => ?_, ?_, ?_⟩
    · rcases hE with ⟨_, re, rfl⟩ | ⟨hx, _⟩
      · rcases hF with ⟨_, rf, rfl⟩ | ⟨hx, _⟩
        · refine bool_eq (P := encS e = encS f) (by rw [same_eq]; exact decide_eq_true_iff) hv ⟨fun hs => enc_inj re rf hs, fun hs => by rw [hs]⟩
        · omega
      · omega
    · rcases hE with ⟨hx, _⟩ | ⟨hx, _⟩
      · exact .inl hx
      · exact .inr hx
    · rcases hF with ⟨hx, _⟩ | ⟨hx, _⟩
      · exact .inl hx
      · exact .inr hx
  obtain ⟨k, p, t, c, l, n, ls⟩ := e
  obtain ⟨k2, p2, t2, c2, l2, n2, ls2⟩ := f
  unfold edV at *
  simp only at CE CF CS
  have KE : Hid (EdAt ((w.alloc (.cells #[.int .i64 k, .string p, .string t, .int .i64 c, .int .i64 l, .int .i64 n, .slice a m q] 24)).alloc (.cells #[.int .i64 k2, .string p2, .string t2, .int .i64 c2, .int .i64 l2, .int .i64 n2, .slice a2 m2 q2] 24)) w.heap.size ⟨k, p, t, c, l, n, ls⟩ a m q) := (EdAt.new w 24 ⟨k, p, t, c, l, n, ls⟩ a m q).below (bel_al _ _)
  have KF : Hid (EdAt ((w.alloc (.cells #[.int .i64 k, .string p, .string t, .int .i64 c, .int .i64 l, .int .i64 n, .slice a m q] 24)).alloc (.cells #[.int .i64 k2, .string p2, .string t2, .int .i64 c2, .int .i64 l2, .int .i64 n2, .slice a2 m2 q2] 24)) (w.heap.size + 1) ⟨k2, p2, t2, c2, l2, n2, ls2⟩ a2 m2 q2) := by
    have := EdAt.new (w.alloc (.cells #[.int .i64 k, .string p, .string t, .int .i64 c, .int .i64 l, .int .i64 n, .slice a m q] 24)) 24 ⟨k2, p2, t2, c2, l2, n2, ls2⟩ a2 m2 q2
    rw [show (w.alloc (.cells #[.int .i64 k, .string p, .string t, .int .i64 c, .int .i64 l, .int .i64 n, .slice a m q] 24)).heap.size = w.heap.size + 1 by simp] at this
    exact this
  have KB : Hid (Below w.heap.size w ((w.alloc (.cells #[.int .i64 k, .string p, .string t, .int .i64 c, .int .i64 l, .int .i64 n, .slice a m q] 24)).alloc (.cells #[.int .i64 k2, .string p2, .string t2, .int .i64 c2, .int .i64 l2, .int .i64 n2, .slice a2 m2 q2] 24))) := bel_tr (bel_al _ _) (bel_al _ _)
  clear h h2 cE cF hE hF hv
  rcases HX.out.2.1 with rfl | rfl
  · rcases HX.out.2.2 with rfl | rfl
    · have hab := HX.out.1 ⟨rfl, rfl⟩
      generalize hgq : (E.toList == F.toList) = gq at *
      clear HX
      go_enter Try.func5, Try.ntmps5
      go_wp2_with fail
      refine (examples_val _).mono ?_
      rintro x w1 ⟨rfl, b⟩
      replace KB : Hid (Below w.heap.size w w1) := bel_tr KB.out b
      replace KE : Hid (EdAt w1 w.heap.size ⟨k, p, t, c, l, n, ls⟩ a m q) := KE.out.below b
      replace KF : Hid (EdAt w1 (w.heap.size + 1) ⟨k2, p2, t2, c2, l2, n2, ls2⟩ a2 m2 q2) := KF.out.below b
      clear b
      have q0w1 := KE.out.c0
      have q1w1 := KE.out.c1
      have q2w1 := KE.out.c2
      have q3w1 := KE.out.c3
      have q4w1 := KE.out.c4
      have q5w1 := KE.out.c5
      have q6w1 := KE.out.c6
      simp only at q0w1 q1w1 q2w1 q3w1 q4w1 q5w1
      go_wp2_with fail
      refine (CE.out _ KB.out).mono ?_
      rintro x w2 ⟨rfl, b⟩
      clear q0w1 q1w1 q2w1 q3w1 q4w1 q5w1 q6w1
      replace KB : Hid (Below w.heap.size w w2) := bel_tr KB.out b
      replace KE : Hid (EdAt w2 w.heap.size ⟨k, p, t, c, l, n, ls⟩ a m q) := KE.out.below b
      replace KF : Hid (EdAt w2 (w.heap.size + 1) ⟨k2, p2, t2, c2, l2, n2, ls2⟩ a2 m2 q2) := KF.out.below b
      clear b
      have r0w2 := KF.out.c0
      have r1w2 := KF.out.c1
      have r2w2 := KF.out.c2
      have r3w2 := KF.out.c3
      have r4w2 := KF.out.c4
      have r5w2 := KF.out.c5
      have r6w2 := KF.out.c6
      simp only at r0w2 r1w2 r2w2 r3w2 r4w2 r5w2
      go_wp2_with fail
      refine (CF.out _ KB.out).mono ?_
      rintro x w3 ⟨rfl, b⟩
      clear r0w2 r1w2 r2w2 r3w2 r4w2 r5w2 r6w2
      replace KB : Hid (Below w.heap.size w w3) := bel_tr KB.out b
      replace KE : Hid (EdAt w3 w.heap.size ⟨k, p, t, c, l, n, ls⟩ a m q) := KE.out.below b
      replace KF : Hid (EdAt w3 (w.heap.size + 1) ⟨k2, p2, t2, c2, l2, n2, ls2⟩ a2 m2 q2) := KF.out.below b
      clear b
      have q0w3 := KE.out.c0
      have q1w3 := KE.out.c1
      have q2w3 := KE.out.c2
      have q3w3 := KE.out.c3
      have q4w3 := KE.out.c4
      have q5w3 := KE.out.c5
      have q6w3 := KE.out.c6
      simp only at q0w3 q1w3 q2w3 q3w3 q4w3 q5w3
      have r0w3 := KF.out.c0
      have r1w3 := KF.out.c1
      have r2w3 := KF.out.c2
      have r3w3 := KF.out.c3
      have r4w3 := KF.out.c4
      have r5w3 := KF.out.c5
      have r6w3 := KF.out.c6
      simp only at r0w3 r1w3 r2w3 r3w3 r4w3 r5w3
      go_wp2_with fail
      refine (CS.out _ KB.out).mono ?_
      rintro x w4 ⟨rfl, b⟩
      replace KB : Hid (Below w.heap.size w w4) := bel_tr KB.out b
      clear b
      go_wp2
      go_ret
      exact ⟨rfl, KB.out⟩
    · clear HX
      go_enter Try.func5, Try.ntmps5
      go_wp2_with fail
      refine (examples_val _).mono ?_
      rintro x w1 ⟨rfl, b⟩
      replace KB : Hid (Below w.heap.size w w1) := bel_tr KB.out b
      replace KE : Hid (EdAt w1 w.heap.size ⟨k, p, t, c, l, n, ls⟩ a m q) := KE.out.below b
      replace KF : Hid (EdAt w1 (w.heap.size + 1) ⟨k2, p2, t2, c2, l2, n2, ls2⟩ a2 m2 q2) := KF.out.below b
      clear b
      have q0w1 := KE.out.c0
      have q1w1 := KE.out.c1
      have q2w1 := KE.out.c2
      have q3w1 := KE.out.c3
      have q4w1 := KE.out.c4
      have q5w1 := KE.out.c5
      have q6w1 := KE.out.c6
      simp only at q0w1 q1w1 q2w1 q3w1 q4w1 q5w1
      go_wp2_with fail
      refine (CE.out _ KB.out).mono ?_
      rintro x w2 ⟨rfl, b⟩
      clear q0w1 q1w1 q2w1 q3w1 q4w1 q5w1 q6w1
      replace KB : Hid (Below w.heap.size w w2) := bel_tr KB.out b
      replace KE : Hid (EdAt w2 w.heap.size ⟨k, p, t, c, l, n, ls⟩ a m q) := KE.out.below b
      replace KF : Hid (EdAt w2 (w.heap.size + 1) ⟨k2, p2, t2, c2, l2, n2, ls2⟩ a2 m2 q2) := KF.out.below b
      clear b
      have r0w2 := KF.out.c0
      have r1w2 := KF.out.c1
      have r2w2 := KF.out.c2
      have r3w2 := KF.out.c3
      have r4w2 := KF.out.c4
      have r5w2 := KF.out.c5
      have r6w2 := KF.out.c6
      simp only at r0w2 r1w2 r2w2 r3w2 r4w2 r5w2
      go_wp2_with fail
      refine (CF.out _ KB.out).mono ?_
      rintro x w3 ⟨rfl, b⟩
      clear r0w2 r1w2 r2w2 r3w2 r4w2 r5w2 r6w2
      replace KB : Hid (Below w.heap.size w w3) := bel_tr KB.out b
      replace KE : Hid (EdAt w3 w.heap.size ⟨k, p, t, c, l, n, ls⟩ a m q) := KE.out.below b
      replace KF : Hid (EdAt w3 (w.heap.size + 1) ⟨k2, p2, t2, c2, l2, n2, ls2⟩ a2 m2 q2) := KF.out.below b
      clear b
      go_wp2
      go_ret
      exact ⟨rfl, KB.out⟩
  · clear HX
    go_enter Try.func5, Try.ntmps5
    go_wp2_with fail
    refine (examples_val _).mono ?_
    rintro x w1 ⟨rfl, b⟩
    replace KB : Hid (Below w.heap.size w w1) := bel_tr KB.out b
    replace KE : Hid (EdAt w1 w.heap.size ⟨k, p, t, c, l, n, ls⟩ a m q) := KE.out.below b
    replace KF : Hid (EdAt w1 (w.heap.size + 1) ⟨k2, p2, t2, c2, l2, n2, ls2⟩ a2 m2 q2) := KF.out.below b
    clear b
    have q0w1 := KE.out.c0
    have q1w1 := KE.out.c1
    have q2w1 := KE.out.c2
    have q3w1 := KE.out.c3
    have q4w1 := KE.out.c4
    have q5w1 := KE.out.c5
    have q6w1 := KE.out.c6
    simp only at q0w1 q1w1 q2w1 q3w1 q4w1 q5w1
    go_wp2_with fail
    refine (CE.out _ KB.out).mono ?_
    rintro x w2 ⟨rfl, b⟩
    clear q0w1 q1w1 q2w1 q3w1 q4w1 q5w1 q6w1
    replace KB : Hid (Below w.heap.size w w2) := bel_tr KB.out b
    replace KE : Hid (EdAt w2 w.heap.size ⟨k, p, t, c, l, n, ls⟩ a m q) := KE.out.below b
    replace KF : Hid (EdAt w2 (w.heap.size + 1) ⟨k2, p2, t2, c2, l2, n2, ls2⟩ a2 m2 q2) := KF.out.below b
    clear b
    have r0w2 := KF.out.c0
    have r1w2 := KF.out.c1
    have r2w2 := KF.out.c2
    have r3w2 := KF.out.c3
    have r4w2 := KF.out.c4
    have r5w2 := KF.out.c5
    have r6w2 := KF.out.c6
    simp only at r0w2 r1w2 r2w2 r3w2 r4w2 r5w2
    go_wp2_with fail
    refine (CF.out _ KB.out).mono ?_
    rintro x w3 ⟨rfl, b⟩
    clear r0w2 r1w2 r2w2 r3w2 r4w2 r5w2 r6w2
    replace KB : Hid (Below w.heap.size w w3) := bel_tr KB.out b
    replace KE : Hid (EdAt w3 w.heap.size ⟨k, p, t, c, l, n, ls⟩ a m q) := KE.out.below b
    replace KF : Hid (EdAt w3 (w.heap.size + 1) ⟨k2, p2, t2, c2, l2, n2, ls2⟩ a2 m2 q2) := KF.out.below b
    clear b
    go_wp2
    go_ret
    exact ⟨rfl, KB.out⟩

theorem walk (e0 : Ed) (a0 : Option Addr) (m0 c0 : Nat) (e1 : Ed) (a1 : Option Addr) (m1 c1 : Nat) (W : World) (w0 : Nm W a0 m0 e0.ls) (w1 : Nm W a1 m1 e1.ls) :
    Calls Try.prog 5 #[edV e0 a0 m0 c0, edV e1 a1 m1 c1] W fun x w' => x = .returned (.bool true) ∧ Below W.heap.size W w' := core W w0 w1

set_option maxRecDepth 100000 in
theorem lifted (os : Os) (started : os.Started) (H : Type) (enc : TypeId × Value → H) :
    ReturnsInHanded {} Try.checked os 5 .any (Rows.editApartSpec.pre6 enc Try.prog Try.f5 Rows.editApartRow.domain false) (Rows.editApartSpec.post enc Try.prog Try.f5 false true false false) := by
  refine returnsInHanded_of_change (C := Try.checked) own started (by kernel_rfl) Try.func5
    (ChangeSpec.witness6 (enc := enc) (C := Try.checked) false ⟨#[], #[.agg #[.int .i64 0, .string ByteArray.empty, .string ByteArray.empty, .int .i64 0, .int .i64 0, .int .i64 0, .slice none 0 0], .agg #[.int .i64 0, .string ByteArray.empty, .string ByteArray.empty, .int .i64 0, .int .i64 0, .int .i64 0, .slice none 0 0]], []⟩ 8 (by kernel_rfl) (by kernel_rfl) (by kernel_rfl) (by kernel_rfl)) ?_
  intro W base args ds gs before hval0 hW hcnd _
  have hval : ∀ (j : Nat) t v, Try.f5.params[j]? = some t → args[j]? = some v → Value.okWide Try.prog W .any base t v := hval0
  have hW' := hW
  obtain ⟨p, q, hA0, hV, rfl, hfz, hnd⟩ := hW
  have hA : DataW.TrodAll enc Try.prog W 0 (fun _ => true) true Try.f5.params.toList args.toList ds p := hA0
  rw [Try.params5] at hA hval
  obtain ⟨v0, vs0, d0, ds0, p0, q0, hargs, rfl, rfl, h0, r0⟩ := trodAll_cons hA
  obtain ⟨v1, vs1, d1, ds1, p1, q1, rfl, rfl, rfl, h1, r1⟩ := trodAll_cons r0
  obtain ⟨rfl, rfl, rfl⟩ := trodAll_nil r1
  obtain rfl : args = #[v0, v1] := by cases args; simp_all
  obtain ⟨rfl, rfl⟩ := trodVars_none hV
  have k0 := h0
  have lt0 : ∀ x ∈ p0, x.block < W.heap.size := by obtain ⟨m, hm⟩ := k0; exact DataW.trod_lt m _ _ _ hm
  obtain ⟨e0, a0, m0, c0, rfl, w0⟩ := Edi.open_edit (hval 0 24 v0 rfl rfl) h0
  have k1 := h1
  have lt1 : ∀ x ∈ p1, x.block < W.heap.size := by obtain ⟨m, hm⟩ := k1; exact DataW.trod_lt m _ _ _ hm
  obtain ⟨e1, a1, m1, c1, rfl, w1⟩ := Edi.open_edit (hval 1 24 v1 rfl rfl) h1
  clear hA0 hval0
  refine (walk e0 a0 m0 c0 e1 a1 m1 c1 W w0 w1).mono fun e W' ⟨he, bel⟩ => ?_
  subst he
  exact ⟨_, rfl, _, _, _, [], _, [], hW', trodAll_mk1 (shut_bool Try.underlying4 _), (trodAll_cons_mk (Below.trod laidOut (by kernel_rfl) (of_decide_eq_true (by kernel_rfl)) k0 bel lt0) (trodAll_cons_mk (Below.trod laidOut (by kernel_rfl) (of_decide_eq_true (by kernel_rfl)) k1 bel lt1) trodAll_mk0)), rfl, bel.frame _, fun h => by cases h⟩

theorem over : Rows.editApartRow.holds Try.pinned (OpenSpec.ofChange Rows.editApartSpec) :=
  OpenClaim.holds_of_wide 5 Try.f5 rfl rfl rfl rfl rfl rfl rfl ⟨rfl, rfl, rfl, rfl, rfl⟩ rfl rfl rfl rfl rfl (by kernel_rfl) Try.func5 (by kernel_rfl)
    (of_decide_eq_true (by kernel_rfl)) (by unfold Func.isWrapper; first | (rw [if_pos (by decide +kernel)]; kernel_rfl) | (rw [if_neg (by decide +kernel)]; exact ⟨rfl, rfl⟩))
    (fun os started H enc _ => lifted os started H enc)
end Go.Proofs.Ytlinlbfiheoniaa.editApart

namespace Go.Proofs.Ytlinlbfiheoniaa
/-- The statement. -/
theorem editApart_holds : Rows.EditApartSaid := editApart.over
#print axioms editApart_holds
end Go.Proofs.Ytlinlbfiheoniaa
