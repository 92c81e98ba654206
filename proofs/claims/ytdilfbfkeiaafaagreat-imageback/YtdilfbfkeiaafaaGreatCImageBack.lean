/- ImageBack: what was written of a space is read as that space; what is cut off, or has more behind it, is none: the statement's function returns true; nothing that was there is changed. No condition. -/
import Derived.Test.YtdilfbfkeiaafaaGreatB38
import Derived.Test.YtdilfbfkeiaafaaGreatB39
import Derived.Test.YtdilfbfkeiaafaaGreatB29
import Derived.Test.YtdilfbfkeiaafaaGreatB30
import Derived.Deep.DeepCutAuto
import Derived.Deep.CutBlock
set_option maxRecDepth 100000
set_option maxHeartbeats 8000000
namespace Go.Proofs.YtdilfbfkeiaafaaGreat.imageBack
open Go.ChangeShapes Go.WideShapes Go.ChangeAt Go.RowKit Go.Proofs.YtdilfbfkeiaafaaGreat Go.Proofs.YtdilfbfkeiaafaaGreat.Img
open Go.ChangeMaps (open_string shut_string)
open Go.Proofs.YtdilfbfkeiaafaaGreat.Spa (Sp RtS zeroS spV SpIn SpC noS ER Eds of_val sameS_val)
open Go.Proofs.YtdilfbfkeiaafaaGreat.Edi (bel_tr bel_al bel_cell bel_drew)
set_option linter.unusedVariables false
theorem own : ownKnob Tryz.prog.godebug = none := by kernel_rfl
theorem walk_b (a0 : Option Addr) (b0 off0 cap0 n0 : Nat) (us : List ER) (ct : Int) (w : World) (hn0 : us.length = n0) (hU : Eds w a0 b0 off0 us) (hc0 : -9223372036854775808 ≤ ct) (hc1 : ct ≤ 9223372036854775807) :
    Calls Tryz.prog 6 #[.slice a0 n0 cap0, .int .i64 ct] w fun e w' => e = .returned (.bool true) ∧ Below w.heap.size w w' := by
  have HU : Hid (Eds w a0 b0 off0 us) := hU
  have HN : Hid (us.length = n0) := hn0
  clear hU hn0; go_enter Tryz.func6, Tryz.ntmps6; go_wp2_with fail
  refine (examples12_val _).mono ?_
  rintro e w1 ⟨rfl, b1⟩; have B1 : Hid (Below w.heap.size w w1) := b1
  clear b1; go_wp2_with fail
  refine (of_val a0 b0 off0 cap0 n0 us _ HN.out (HU.out.below B1.out)).mono ?_
  rintro e w2 ⟨⟨s, N, L, rfl, hR, hIN⟩, b2⟩; have B2 : Hid (Below w.heap.size w w2) := bel_tr B1.out b2
  have HI : Hid (SpIn w2 s N L) := hIN
  have HR : Hid (RtS s) := hR
  clear b2 hIN hR B1; obtain ⟨J, hJ⟩ : ∃ J, Img.encI s = J := ⟨_, rfl⟩
  have HJ : Hid (Img.encI s = J) := hJ
  have hJm : J.size ≤ 260910 := by rw [← hJ]; exact enc_size HR.out
  have hJ5 : 5 ≤ J.size := by
    have h := sealB_pos (headL (headZ s))
    rw [← hJ]
    unfold Img.encI partsS; rw [joinP_cons, Wir.app_size]
    omega
  have hJe : J.toList.isEmpty = false := by
    rw [Bool.eq_false_iff]
    intro e
    have h2 := congrArg ByteArray.size ((empty_iff _).1 e)
    have h4 : (⟨#[]⟩ : ByteArray).size = 0 := rfl
    omega
  have SB : Hid (SpC (w2.alloc (.cells #[.int .i64 s.tx, .int .i64 s.nb, .int .i64 s.ng, .int .i64 s.now, .slice N.a N.n N.c, .slice L.a L.n L.c] 27)) w2.heap.size s N L) := SpC.new w2 _ s N L
  have CE : Hid (∀ W, Below w2.heap.size w2 W → Calls Tryz.prog 15 #[spV s N L] W fun e w' => e = .returned (.tuple #[.string J, .int .i64 0]) ∧ Below W.heap.size W w') := fun W hb => encode_yes (HI.out.below hb) HR.out J HJ.out
  have CD : Hid (∀ W, Calls Tryz.prog 17 #[.string J] W fun e w' => DecR W.heap.size s 0 e w' ∧ Below W.heap.size W w') := fun W => decode_val (by omega) s 0 (by rw [← HJ.out]; exact dec_back HR.out)
  have C2 : Hid (∀ W, Calls Tryz.prog 17 #[.string (J ++ J)] W fun e w' => DecR W.heap.size zeroS 2 e w' ∧ Below W.heap.size W w') := fun W => decode_val (by rw [Wir.app_size]; omega) zeroS 2 (by rw [← HJ.out]; exact dec_twice HR.out)
  have C3 : Hid (∀ W k, k < J.size → Calls Tryz.prog 17 #[.string (J.extract 0 k)] W fun e w' => DecR W.heap.size zeroS 2 e w' ∧ Below W.heap.size W w') := fun W k hk => decode_val (by have := Wir.ext_size J 0 k; omega) zeroS 2 (by rw [← HJ.out] at hk ⊢; exact dec_cut HR.out k hk)
  have ha : ∀ w : World, (Op.stringOp .add J J).run Tryz.prog w = .ok (.string (J ++ J)) w := fun w => run_string_add_sum (P := Tryz.prog) w J J (by omega)
  obtain ⟨Z, hZ⟩ : ∃ z : Int, (if ct < 0 then -(ct + 1) else ct) = z := ⟨_, rfl⟩
  have hz : 0 ≤ Z ∧ Z ≤ 9223372036854775807 := by rw [← hZ]; split <;> omega
  unfold spV at CE ⊢
  clear hJ; go_wp2_with fail
  refine (CE.out _ (bel_al _ _)).mono ?_
  rintro e w3 ⟨rfl, b3⟩; have S3 : Hid (SpC w3 w2.heap.size s N L) := SB.out.below b3
  have I3 : Hid (SpIn w3 s N L) := (HI.out.below (bel_al _ _)).below b3
  have B3 : Hid (Below w.heap.size w w3) := bel_tr B2.out (bel_tr (bel_al _ _) b3)
  clear b3 SB CE HI B2; generalize w2.heap.size = q at *
  go_wp2_with fail
  refine (CD.out _).mono ?_
  rintro e w4 ⟨⟨N4, L4, rfl, hS4⟩, b4⟩; have O4 : Hid (SpIn w4 s N4 L4) := hS4.spIn
  have S4 : Hid (SpC w4 q s N L) := S3.out.below b4
  have I4 : Hid (SpIn w4 s N L) := I3.out.below b4
  have B4 : Hid (Below w.heap.size w w4) := bel_tr B3.out b4
  clear b4 hS4 CD S3 I3 B3; have T5 : Hid (SpC (w4.alloc (.cells #[.int .i64 s.tx, .int .i64 s.nb, .int .i64 s.ng, .int .i64 s.now, .slice N4.a N4.n N4.c, .slice L4.a L4.n L4.c] 27)) w4.heap.size s N4 L4) := SpC.new w4 _ s N4 L4
  have CM : Hid (∀ W, Below w4.heap.size w4 W → Calls Tryz.prog 19 #[spV s N L, spV s N4 L4] W fun e w' => e = .returned (.bool true) ∧ Below W.heap.size W w') := fun W hb => sameS_val (I4.out.below hb) (O4.out.below hb)
  obtain ⟨x0, x1, x2, x3, x4, x5, _⟩ := S4.out.below (bel_al w4 (.cells #[.int .i64 s.tx, .int .i64 s.nb, .int .i64 s.ng, .int .i64 s.now, .slice N4.a N4.n N4.c, .slice L4.a L4.n L4.c] 27))
  obtain ⟨y0, y1, y2, y3, y4, y5, _⟩ := T5.out
  unfold spV at CM ⊢
  go_upto_region 7 with fail
  have B5 : Hid (Below w4.heap.size w4 (w4.alloc (.cells #[.int .i64 s.tx, .int .i64 s.nb, .int .i64 s.ng, .int .i64 s.now, .slice N4.a N4.n N4.c, .slice L4.a L4.n L4.c] 27))) := bel_al _ _
  have B6 : Hid (Below w.heap.size w (w4.alloc (.cells #[.int .i64 s.tx, .int .i64 s.nb, .int .i64 s.ng, .int .i64 s.now, .slice N4.a N4.n N4.c, .slice L4.a L4.n L4.c] 27))) := bel_tr B4.out (bel_al _ _)
  generalize w4.alloc (.cells #[.int .i64 s.tx, .int .i64 s.nb, .int .i64 s.ng, .int .i64 s.now, .slice N4.a N4.n N4.c, .slice L4.a L4.n L4.c] 27) = W5 at *
  go_wp2_with fail
  refine (CM.out _ B5.out).mono ?_
  rintro e w6 ⟨rfl, b6⟩; have B7 : Hid (Below w.heap.size w w6) := bel_tr B6.out b6
  clear b6 CM B5 B6 x0 x1 x2 x3 x4 x5 y0 y1 y2 y3 y4 y5 T5 S4 I4 O4 B4; go_upto_if 39 with fail
  go_cut [1] (fun v wx => v = .int .i64 Z ∧ wx = w6)
  case first =>
    by_cases hneg : ct < 0
    · have hnb : decide (ct < 0) = true := decide_eq_true hneg
      rw [if_pos hneg] at hZ
      go_wp2; go_meet
      case rel => exact ⟨by rw [← hZ], rfl⟩
    · have hnb : decide (ct < 0) = false := decide_eq_false hneg
      rw [if_neg hneg] at hZ
      go_wp2; go_meet
      case rel => exact ⟨by rw [← hZ], rfl⟩
  case rest =>
    obtain ⟨rfl, hw⟩ := hcut
    subst hw; clear hZ hc0 hc1; obtain ⟨z, rfl⟩ : ∃ z : Nat, Z = (z : Int) := ⟨Z.toNat, by omega⟩
    obtain ⟨m, hm⟩ : ∃ m : Nat, z % J.size = m := ⟨_, rfl⟩
    have hmJ : m < J.size := by rw [← hm]; exact Nat.mod_lt _ (by omega)
    have hmz : (z : Int) % (J.size : Int) = (m : Int) := by rw [← hm]; exact (Int.natCast_emod _ _).symm
    have hJ0 : ((J.size : Int) == 0) = false := by rw [beq_eq_false_iff_ne]; omega
    have hJx : J.size ≤ 9223372036854775807 := by omega
    go_wp2_with fail
    refine (C3.out _ m hmJ).mono ?_
    rintro e w7 ⟨⟨N7, L7, rfl, _⟩, b7⟩; have B8 : Hid (Below w.heap.size w w7) := bel_tr B7.out b7
    clear b7 C3 B7; unfold spV zeroS; go_wp2_with fail
    refine (C2.out _).mono ?_
    rintro e w8 ⟨⟨N8, L8, rfl, _⟩, b8⟩; have B9 : Hid (Below w.heap.size w w8) := bel_tr B8.out (bel_tr (bel_al _ _) b8)
    clear b8 C2 B8; unfold spV zeroS; go_wp2; go_ret; exact ⟨rfl, bel_tr B9.out (bel_al _ _)⟩
theorem walk (a0 : Option Addr) (b0 off0 cap0 : Nat) (ss0 : List ER) (ct : Int) (W : World) (h0 : Eds W a0 b0 off0 ss0 ∧ ss0.length ≤ cap0) (h1 : (Lit.int .i64 ct).wf = true) :
    Calls Tryz.prog 6 #[.slice a0 ss0.length cap0, .int .i64 ct] W fun e w' => e = .returned (.bool true) ∧ Below W.heap.size W w' :=
  walk_b a0 b0 off0 cap0 _ ss0 ct W rfl h0.1 (bounds_i64 h1).1 (bounds_i64 h1).2
theorem lifted (os : Os) (started : os.Started) (H : Type) (enc : TypeId × Value → H) :
    ReturnsInHanded {} Tryz.checked os 6 .any (Rows.imageBackSpec.pre6 enc Tryz.prog Tryz.f6 Rows.imageBackRow.domain false) (Rows.imageBackSpec.post enc Tryz.prog Tryz.f6 false true false false) := by
  refine returnsInHanded_of_change (C := Tryz.checked) own started (by kernel_rfl) Tryz.func6
    (ChangeSpec.witness6 (enc := enc) (C := Tryz.checked) false ⟨#[], #[.slice none 0 0, .int .i64 0], []⟩ 8 (by kernel_rfl) (by kernel_rfl) (by kernel_rfl) (by kernel_rfl)) ?_
  intro W base args ds gs before hval0 hW hcnd _
  have hval : ∀ (j : Nat) t v, Tryz.f6.params[j]? = some t → args[j]? = some v → Value.okWide Tryz.prog W .any base t v := hval0
  have hW' := hW
  obtain ⟨p, q, hA0, hV, rfl, hfz, hnd⟩ := hW
  have hA : DataW.TrodAll enc Tryz.prog W 0 (fun _ => true) true Tryz.f6.params.toList args.toList ds p := hA0
  rw [Tryz.params6] at hA hval
  obtain ⟨v0, vs0, d0, ds0, p0, q0, hargs, rfl, rfl, h0, r0⟩ := trodAll_cons hA
  obtain ⟨v1, vs1, d1, ds1, p1, q1, rfl, rfl, rfl, h1, r1⟩ := trodAll_cons r0
  obtain ⟨rfl, rfl, rfl⟩ := trodAll_nil r1
  obtain rfl : args = #[v0, v1] := by cases args; simp_all
  obtain ⟨rfl, rfl⟩ := trodVars_none hV
  obtain ⟨a0, len0, cap0, rfl⟩ := okWide_slice Tryz.underlying22 (hval 0 22 v0 rfl rfl)
  have k0 := h0
  have lt0 : ∀ x ∈ p0, x.block < W.heap.size := by obtain ⟨m, hm⟩ := k0; exact DataW.trod_lt m _ _ _ hm
  obtain ⟨b0, off0, ss0, rfl, w0⟩ := Spa.open_edits h0
  obtain ⟨a1, rfl, rfl, rfl, w1⟩ := open_int Tryz.underlying3 (hval 1 3 v1 rfl rfl) h1
  clear hA0 hval0; refine (walk a0 b0 off0 cap0 ss0 a1 W w0 w1).mono fun e W' ⟨he, bel⟩ => ?_
  subst he; exact ⟨_, rfl, _, _, _, [], _, [], hW', trodAll_mk1 (shut_bool Tryz.underlying4 _), (trodAll_cons_mk (Below.trod laidOut (by kernel_rfl) (of_decide_eq_true (by kernel_rfl)) k0 bel lt0) (trodAll_cons_mk (shut_int Tryz.underlying3 w1) trodAll_mk0)), rfl, bel.frame _, fun h => by cases h⟩
theorem over : Rows.imageBackRow.holds Tryz.pinned (OpenSpec.ofChange Rows.imageBackSpec) :=
  OpenClaim.holds_of_wide 6 Tryz.f6 rfl rfl rfl rfl rfl rfl rfl ⟨rfl, rfl, rfl, rfl, rfl⟩ rfl rfl rfl rfl rfl (by kernel_rfl) Tryz.func6 (by kernel_rfl)
    (of_decide_eq_true (by kernel_rfl)) (by unfold Func.isWrapper; first | (rw [if_pos (by decide +kernel)]; kernel_rfl) | (rw [if_neg (by decide +kernel)]; exact ⟨rfl, rfl⟩))
    (fun os started H enc _ => lifted os started H enc)
end Go.Proofs.YtdilfbfkeiaafaaGreat.imageBack
namespace Go.Proofs.YtdilfbfkeiaafaaGreat
theorem imageBack_holds : Rows.ImageBackSaid := imageBack.over
#print axioms imageBack_holds
end Go.Proofs.YtdilfbfkeiaafaaGreat
