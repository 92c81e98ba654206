/- ImageApart: two spaces have the same bytes just if they are the same: the statement's function returns true; nothing that was there is changed. No condition. -/
import Derived.Test.YtdilfbfkeiaafaaGreatB51
import Derived.Test.YtdilfbfkeiaafaaGreatB52
import Derived.Test.YtdilfbfkeiaafaaGreatB53
import Derived.Test.YtdilfbfkeiaafaaGreatB41
set_option maxRecDepth 100000
set_option maxHeartbeats 8000000
namespace Go.Proofs.YtdilfbfkeiaafaaGreat.imageApart
open Go.ChangeShapes Go.WideShapes Go.ChangeAt Go.RowKit Go.Proofs.YtdilfbfkeiaafaaGreat Go.Proofs.YtdilfbfkeiaafaaGreat.Img
open Go.ChangeMaps (open_string shut_string)
open Go.Proofs.YtdilfbfkeiaafaaGreat.Spa (Sp RtS zeroS spV SpIn SpC noS ER Eds of_val sameS_val sameS_no)
open Go.Proofs.YtdilfbfkeiaafaaGreat.Edi (bel_tr bel_al bel_cell bel_drew)
set_option linter.unusedVariables false
theorem own : ownKnob Tryz.prog.godebug = none := by kernel_rfl
theorem same_any {s t : Sp} {N L N2 L2 : RS} {w : World} (h : SpIn w s N L) (h2 : SpIn w t N2 L2) (v : Bool) (hv : v = true ↔ s = t) :
    Calls Tryz.prog 19 #[spV s N L, spV t N2 L2] w fun e w' => e = .returned (.bool v) ∧ Below w.heap.size w w' := by
  cases v with
  | true =>
    obtain rfl := hv.1 rfl
    exact sameS_val h h2
  | false => exact sameS_no h h2 (fun e => by have := hv.2 e; cases this)
theorem walk_b (a0 : Option Addr) (b0 off0 cap0 n0 : Nat) (us : List ER) (a1 : Option Addr) (b1 off1 cap1 n1 : Nat) (vs : List ER) (w : World) (hn0 : us.length = n0) (hU : Eds w a0 b0 off0 us) (hn1 : vs.length = n1) (hV : Eds w a1 b1 off1 vs) :
    Calls Tryz.prog 8 #[.slice a0 n0 cap0, .slice a1 n1 cap1] w fun e w' => e = .returned (.bool true) ∧ Below w.heap.size w w' := by
  have HU : Hid (Eds w a0 b0 off0 us) := hU
  have HN : Hid (us.length = n0) := hn0
  have HV : Hid (Eds w a1 b1 off1 vs) := hV
  have HM : Hid (vs.length = n1) := hn1
  clear hU hn0 hV hn1; go_enter Tryz.func8, Tryz.ntmps8; go_wp2_with fail
  refine (examples12_val _).mono ?_
  rintro e w1 ⟨rfl, k1⟩; have B1 : Hid (Below w.heap.size w w1) := k1
  clear k1; go_wp2_with fail
  refine (of_val a0 b0 off0 cap0 n0 us _ HN.out (HU.out.below B1.out)).mono ?_
  rintro e w2 ⟨⟨s, N, L, rfl, hR, hIN⟩, k2⟩; have B2 : Hid (Below w.heap.size w w2) := bel_tr B1.out k2
  have I2 : Hid (SpIn w2 s N L) := hIN
  have HR : Hid (RtS s) := hR
  clear k2 hIN hR B1; have S2 : Hid (SpC (w2.alloc (.cells #[.int .i64 s.tx, .int .i64 s.nb, .int .i64 s.ng, .int .i64 s.now, .slice N.a N.n N.c, .slice L.a L.n L.c] 27)) w2.heap.size s N L) := SpC.new w2 _ s N L
  unfold spV; go_wp2_with fail
  refine (of_val a1 b1 off1 cap1 n1 vs _ HM.out (HV.out.below (bel_tr B2.out (bel_al _ _)))).mono ?_
  rintro e w3 ⟨⟨t, N3, L3, rfl, hR3, hIN3⟩, k3⟩; have B3 : Hid (Below w.heap.size w w3) := bel_tr B2.out (bel_tr (bel_al _ _) k3)
  have I3 : Hid (SpIn w3 s N L) := (I2.out.below (bel_al _ _)).below k3
  have S3 : Hid (SpC w3 w2.heap.size s N L) := S2.out.below k3
  have J3 : Hid (SpIn w3 t N3 L3) := hIN3
  have HR3 : Hid (RtS t) := hR3
  clear k3 hIN3 hR3 S2 I2 B2 HU HV; generalize w2.heap.size = q at *
  obtain ⟨X, hX⟩ : ∃ J, Img.encI s = J := ⟨_, rfl⟩
  obtain ⟨Y, hY⟩ : ∃ J, Img.encI t = J := ⟨_, rfl⟩
  have HX : Hid (Img.encI s = X) := hX
  have HY : Hid (Img.encI t = Y) := hY
  obtain ⟨v, hv⟩ : ∃ v : Bool, v = true ↔ s = t := by
    by_cases e : s = t
    · exact ⟨true, fun _ => e, fun _ => rfl⟩
    · exact ⟨false, fun h => (by cases h), fun h => absurd h e⟩
  have HVV : Hid (∀ u : Bool, (u = true ↔ s = t) → u = v) := fun u hu => by
    cases u <;> cases v <;> simp_all
  have hxy : (X.toList == Y.toList) = v := by
    refine HVV.out _ ?_
    rw [beq_iff_eq, ByteArray.toList_eq, ByteArray.toList_eq, ← enc_same HR.out HR3.out, hX, hY]
    exact ⟨fun e => bytes_inj e, fun e => by rw [e]⟩
  have CE : Hid (∀ W, Below w3.heap.size w3 W → Calls Tryz.prog 15 #[spV s N L] W fun e w' => e = .returned (.tuple #[.string X, .int .i64 0]) ∧ Below W.heap.size W w') := fun W hb => encode_yes (I3.out.below hb) HR.out X HX.out
  have CF : Hid (∀ W, Below w3.heap.size w3 W → Calls Tryz.prog 15 #[spV t N3 L3] W fun e w' => e = .returned (.tuple #[.string Y, .int .i64 0]) ∧ Below W.heap.size W w') := fun W hb => encode_yes (J3.out.below hb) HR3.out Y HY.out
  have HSV : Hid (v = true ↔ s = t) := hv
  have CM : Hid (∀ W, Below w3.heap.size w3 W → Calls Tryz.prog 19 #[spV s N L, spV t N3 L3] W fun e w' => e = .returned (.bool v) ∧ Below W.heap.size W w') := fun W hb => same_any (I3.out.below hb) (J3.out.below hb) v HSV.out
  have T3 : Hid (SpC (w3.alloc (.cells #[.int .i64 t.tx, .int .i64 t.nb, .int .i64 t.ng, .int .i64 t.now, .slice N3.a N3.n N3.c, .slice L3.a L3.n L3.c] 27)) w3.heap.size t N3 L3) := SpC.new w3 _ t N3 L3
  unfold spV at CE CF CM ⊢
  clear hX hY hv HVV; go_upto_region 4 with fail
  have S4 : Hid (SpC (w3.alloc (.cells #[.int .i64 t.tx, .int .i64 t.nb, .int .i64 t.ng, .int .i64 t.now, .slice N3.a N3.n N3.c, .slice L3.a L3.n L3.c] 27)) q s N L) := S3.out.below (bel_al _ _)
  have K4 : Hid (Below w3.heap.size w3 (w3.alloc (.cells #[.int .i64 t.tx, .int .i64 t.nb, .int .i64 t.ng, .int .i64 t.now, .slice N3.a N3.n N3.c, .slice L3.a L3.n L3.c] 27))) := bel_al _ _
  have B4 : Hid (Below w.heap.size w (w3.alloc (.cells #[.int .i64 t.tx, .int .i64 t.nb, .int .i64 t.ng, .int .i64 t.now, .slice N3.a N3.n N3.c, .slice L3.a L3.n L3.c] 27))) := bel_tr B3.out (bel_al _ _)
  generalize w3.alloc (.cells #[.int .i64 t.tx, .int .i64 t.nb, .int .i64 t.ng, .int .i64 t.now, .slice N3.a N3.n N3.c, .slice L3.a L3.n L3.c] 27) = W4 at *
  obtain ⟨x0, x1, x2, x3, x4, x5, _⟩ := S4.out
  go_wp2_with fail
  refine (CE.out _ K4.out).mono ?_
  rintro e w5 ⟨rfl, k5⟩; obtain ⟨y0, y1, y2, y3, y4, y5, _⟩ := T3.out.below k5
  have S5 : Hid _ := S4.out.below k5
  have T5 : Hid _ := T3.out.below k5
  have K5 : Hid (Below w3.heap.size w3 w5) := K4.out.trans (k5.mono K4.out.size)
  have B5 : Hid (Below w.heap.size w w5) := bel_tr B4.out k5
  clear k5 x0 x1 x2 x3 x4 x5 CE; go_wp2_with fail
  refine (CF.out _ K5.out).mono ?_
  rintro e w6 ⟨rfl, k6⟩; clear y0 y1 y2 y3 y4 y5; obtain ⟨x0, x1, x2, x3, x4, x5, _⟩ := S5.out.below k6
  obtain ⟨y0, y1, y2, y3, y4, y5, _⟩ := T5.out.below k6
  have K6 : Hid (Below w3.heap.size w3 w6) := K5.out.trans (k6.mono K5.out.size)
  have B6 : Hid (Below w.heap.size w w6) := bel_tr B5.out k6
  clear k6 CF; go_wp2_with fail
  refine (CM.out _ K6.out).mono ?_
  rintro e w7 ⟨rfl, k7⟩; have B7 : Hid (Below w.heap.size w w7) := bel_tr B6.out k7
  clear k7 x0 x1 x2 x3 x4 x5 y0 y1 y2 y3 y4 y5 CM; have hvv : (v == v) = true := by simp
  go_wp2; go_ret; exact ⟨rfl, B7.out⟩
theorem walk (a0 : Option Addr) (b0 off0 cap0 : Nat) (ss0 : List ER) (a1 : Option Addr) (b1 off1 cap1 : Nat) (ss1 : List ER) (W : World) (h0 : Eds W a0 b0 off0 ss0 ∧ ss0.length ≤ cap0) (h1 : Eds W a1 b1 off1 ss1 ∧ ss1.length ≤ cap1) :
    Calls Tryz.prog 8 #[.slice a0 ss0.length cap0, .slice a1 ss1.length cap1] W fun e w' => e = .returned (.bool true) ∧ Below W.heap.size W w' :=
  walk_b a0 b0 off0 cap0 _ ss0 a1 b1 off1 cap1 _ ss1 W rfl h0.1 rfl h1.1
theorem lifted (os : Os) (started : os.Started) (H : Type) (enc : TypeId × Value → H) :
    ReturnsInHanded {} Tryz.checked os 8 .any (Rows.imageApartSpec.pre6 enc Tryz.prog Tryz.f8 Rows.imageApartRow.domain false) (Rows.imageApartSpec.post enc Tryz.prog Tryz.f8 false true false false) := by
  refine returnsInHanded_of_change (C := Tryz.checked) own started (by kernel_rfl) Tryz.func8
    (ChangeSpec.witness6 (enc := enc) (C := Tryz.checked) false ⟨#[], #[.slice none 0 0, .slice none 0 0], []⟩ 8 (by kernel_rfl) (by kernel_rfl) (by kernel_rfl) (by kernel_rfl)) ?_
  intro W base args ds gs before hval0 hW hcnd _
  have hval : ∀ (j : Nat) t v, Tryz.f8.params[j]? = some t → args[j]? = some v → Value.okWide Tryz.prog W .any base t v := hval0
  have hW' := hW
  obtain ⟨p, q, hA0, hV, rfl, hfz, hnd⟩ := hW
  have hA : DataW.TrodAll enc Tryz.prog W 0 (fun _ => true) true Tryz.f8.params.toList args.toList ds p := hA0
  rw [Tryz.params8] at hA hval
  obtain ⟨v0, vs0, d0, ds0, p0, q0, hargs, rfl, rfl, h0, r0⟩ := trodAll_cons hA
  obtain ⟨v1, vs1, d1, ds1, p1, q1, rfl, rfl, rfl, h1, r1⟩ := trodAll_cons r0
  obtain ⟨rfl, rfl, rfl⟩ := trodAll_nil r1
  obtain rfl : args = #[v0, v1] := by cases args; simp_all
  obtain ⟨rfl, rfl⟩ := trodVars_none hV
  obtain ⟨a0, len0, cap0, rfl⟩ := okWide_slice Tryz.underlying22 (hval 0 22 v0 rfl rfl)
  have k0 := h0
  have lt0 : ∀ x ∈ p0, x.block < W.heap.size := by obtain ⟨m, hm⟩ := k0; exact DataW.trod_lt m _ _ _ hm
  obtain ⟨b0, off0, ss0, rfl, w0⟩ := Spa.open_edits h0
  obtain ⟨a1, len1, cap1, rfl⟩ := okWide_slice Tryz.underlying22 (hval 1 22 v1 rfl rfl)
  have k1 := h1
  have lt1 : ∀ x ∈ p1, x.block < W.heap.size := by obtain ⟨m, hm⟩ := k1; exact DataW.trod_lt m _ _ _ hm
  obtain ⟨b1, off1, ss1, rfl, w1⟩ := Spa.open_edits h1
  clear hA0 hval0; refine (walk a0 b0 off0 cap0 ss0 a1 b1 off1 cap1 ss1 W w0 w1).mono fun e W' ⟨he, bel⟩ => ?_
  subst he; exact ⟨_, rfl, _, _, _, [], _, [], hW', trodAll_mk1 (shut_bool Tryz.underlying4 _), (trodAll_cons_mk (Below.trod laidOut (by kernel_rfl) (of_decide_eq_true (by kernel_rfl)) k0 bel lt0) (trodAll_cons_mk (Below.trod laidOut (by kernel_rfl) (of_decide_eq_true (by kernel_rfl)) k1 bel lt1) trodAll_mk0)), rfl, bel.frame _, fun h => by cases h⟩
theorem over : Rows.imageApartRow.holds Tryz.pinned (OpenSpec.ofChange Rows.imageApartSpec) :=
  OpenClaim.holds_of_wide 8 Tryz.f8 rfl rfl rfl rfl rfl rfl rfl ⟨rfl, rfl, rfl, rfl, rfl⟩ rfl rfl rfl rfl rfl (by kernel_rfl) Tryz.func8 (by kernel_rfl)
    (of_decide_eq_true (by kernel_rfl)) (by unfold Func.isWrapper; first | (rw [if_pos (by decide +kernel)]; kernel_rfl) | (rw [if_neg (by decide +kernel)]; exact ⟨rfl, rfl⟩))
    (fun os started H enc _ => lifted os started H enc)
end Go.Proofs.YtdilfbfkeiaafaaGreat.imageApart
namespace Go.Proofs.YtdilfbfkeiaafaaGreat
theorem imageApart_holds : Rows.ImageApartSaid := imageApart.over
#print axioms imageApart_holds
end Go.Proofs.YtdilfbfkeiaafaaGreat
