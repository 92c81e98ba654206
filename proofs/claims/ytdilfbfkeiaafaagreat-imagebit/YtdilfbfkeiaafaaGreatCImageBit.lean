/- ImageBit: one bit of the bytes of a space that is turned is told: the statement's function returns true; nothing that was there is changed. No condition. -/
import Derived.Test.YtdilfbfkeiaafaaGreatB38
import Derived.Test.YtdilfbfkeiaafaaGreatB39
import Derived.Test.YtdilfbfkeiaafaaGreatB36
import Derived.Test.YtdilfbfkeiaafaaGreatB30
import Derived.Deep.DeepCutAuto
import Derived.Deep.CutBlock
import Derived.BigRegion
import Derived.Deep.QuietTactic
import Derived.BigQuiet
set_option maxRecDepth 100000
set_option maxHeartbeats 8000000
namespace Go.Proofs.YtdilfbfkeiaafaaGreat.imageBit
open Go.ChangeShapes Go.WideShapes Go.ChangeAt Go.RowKit Go.Proofs.YtdilfbfkeiaafaaGreat Go.Proofs.YtdilfbfkeiaafaaGreat.Img
open Go.ChangeMaps (open_string shut_string)
open Go.Proofs.YtdilfbfkeiaafaaGreat.Spa (Sp RtS zeroS spV SpIn SpC noS ER Eds of_val)
open Go.Proofs.YtdilfbfkeiaafaaGreat.Edi (bel_tr bel_al bel_cell bel_drew)
set_option linter.unusedVariables false
theorem own : ownKnob Tryz.prog.godebug = none := by kernel_rfl
theorem walk_b (a0 : Option Addr) (b0 off0 cap0 n0 : Nat) (us : List ER) (ct : Int) (w : World) (hn0 : us.length = n0) (hU : Eds w a0 b0 off0 us) (hc0 : -9223372036854775808 ≤ ct) (hc1 : ct ≤ 9223372036854775807) :
    Calls Tryz.prog 7 #[.slice a0 n0 cap0, .int .i64 ct] w fun e w' => e = .returned (.bool true) ∧ Below w.heap.size w w' := by
  have HU : Hid (Eds w a0 b0 off0 us) := hU
  have HN : Hid (us.length = n0) := hn0
  clear hU hn0; go_enter Tryz.func7, Tryz.ntmps7; go_wp2_with fail
  refine (examples12_val _).mono ?_
  rintro e w1 ⟨rfl, b1⟩; have B1 : Hid (Below w.heap.size w w1) := b1
  clear b1; go_wp2_with fail
  refine (of_val a0 b0 off0 cap0 n0 us _ HN.out (HU.out.below B1.out)).mono ?_
  rintro e w2 ⟨⟨s, N, L, rfl, hR, hIN⟩, b2⟩; have B2 : Hid (Below w.heap.size w w2) := bel_tr B1.out b2
  have HI : Hid (SpIn w2 s N L) := hIN
  have HR : Hid (RtS s) := hR
  clear b2 hIN hR B1; obtain ⟨J, hJ⟩ : ∃ J, Img.encI s = J := ⟨_, rfl⟩
  have HJ : Hid (Img.encI s = J) := hJ
  have hJm : J.size ≤ 260910 := by rw [← hJ]; exact enc_size HR.out
  have hJ5 : 5 ≤ J.size := by
    have h := sealB_pos (headL (headZ s))
    rw [← hJ]
    unfold Img.encI partsS; rw [joinP_cons, Wir.app_size]
    omega
  have hJe : J.toList.isEmpty = false := by
    rw [Bool.eq_false_iff]
    intro e
    have h2 := congrArg ByteArray.size ((empty_iff _).1 e)
    have h4 : (⟨#[]⟩ : ByteArray).size = 0 := rfl
    omega
  have CE : Hid (Calls Tryz.prog 15 #[spV s N L] w2 fun e w' => e = .returned (.tuple #[.string J, .int .i64 0]) ∧ Below w2.heap.size w2 w') := encode_yes HI.out HR.out J HJ.out
  have CD : Hid (∀ W k y, k < J.size → J.data.toList[k]? ≠ some y → Calls Tryz.prog 17 #[.string ⟨(J.data.toList.set k y).toArray⟩] W fun e w' => (∃ E, E ≠ 0 ∧ DecR W.heap.size zeroS E e w') ∧ Below W.heap.size W w') := fun W k y hk hy => by
    obtain ⟨t, E, hD⟩ := dec_any (mk ((Img.encI s).data.toList.set k y))
    obtain ⟨rfl, hE⟩ := dec_bit HR.out (by rw [HJ.out]; exact hk) (by rw [HJ.out]; exact hy) hD
    rw [HJ.out] at hD
    refine (decode_val (b := mk (J.data.toList.set k y)) (by rw [mk_sz2, List.length_set, Wir.size_list]; omega) zeroS E hD).mono fun e w' h => ⟨⟨E, hE, h.1⟩, h.2⟩
  obtain ⟨Z, hZ⟩ : ∃ z : Int, (if ct < 0 then -(ct + 1) else ct) = z := ⟨_, rfl⟩
  have hz : 0 ≤ Z ∧ Z ≤ 9223372036854775807 := by rw [← hZ]; split <;> omega
  unfold spV at CE ⊢
  clear hJ; go_wp2_with fail
  refine CE.out.mono ?_
  rintro e w3 ⟨rfl, b3⟩; have B3 : Hid (Below w.heap.size w w3) := bel_tr B2.out b3
  clear b3 CE HI B2; go_upto_if 25 with fail
  go_cut [1] (fun v wx => v = .int .i64 Z ∧ wx = w3)
  case first =>
    by_cases hneg : ct < 0
    · have hnb : decide (ct < 0) = true := decide_eq_true hneg
      rw [if_pos hneg] at hZ
      go_wp2; go_meet
      case rel => exact ⟨by rw [← hZ], rfl⟩
    · have hnb : decide (ct < 0) = false := decide_eq_false hneg
      rw [if_neg hneg] at hZ
      go_wp2; go_meet
      case rel => exact ⟨by rw [← hZ], rfl⟩
  case rest =>
    obtain ⟨rfl, hw⟩ := hcut
    subst hw; clear hZ hc0 hc1; obtain ⟨z, rfl⟩ : ∃ z : Nat, Z = (z : Int) := ⟨Z.toNat, by omega⟩
    obtain ⟨m, hm⟩ : ∃ m : Nat, z % (8 * J.size) = m := ⟨_, rfl⟩
    have hmJ : m < 8 * J.size := by rw [← hm]; exact Nat.mod_lt _ (by omega)
    have hmz : (z : Int) % (8 * (J.size : Int)) = (m : Int) := by rw [← hm]; exact (Int.natCast_emod _ _).symm
    have hJ0 : (8 * (J.size : Int) == 0) = false := by rw [beq_eq_false_iff_ne]; omega
    have hJx : J.size ≤ 9223372036854775807 := by omega
    have hw0 := B3.out.size
    obtain ⟨v0, w4, hcv, hrow, bb⟩ := text_row (P := Tryz.prog) wc 9 57 5 J Tryz.underlying9 Tryz.underlying57 Tryz.underlying5 (by unfold maxLen; omega) wc.heap.size (Nat.le_refl _)
    obtain ⟨g, gcap, rfl, hrow2⟩ := ByteRow.open hrow
    have hsl0 : J.data.toList.length = J.size := Array.length_toList
    rw [hsl0] at hcv
    clear hsl0; have b4 := bel_tr B3.out bb
    have HRow : Hid _ := hrow2
    clear hrow hrow2 bb; go_upto_region 9 with fail
    simp only [hmz]
    obtain ⟨q, hqq⟩ : ∃ q : Nat, m / 8 = q := ⟨_, rfl⟩
    obtain ⟨r, hrr⟩ : ∃ r : Nat, m % 8 = r := ⟨_, rfl⟩
    have e3 : (m : Int) / 8 = (q : Int) := by omega
    have e4 : (m : Int) % 8 = (r : Int) := by omega
    have hr8 : r < 8 := by omega
    have hq : q < J.size := by omega
    have hlq : q < J.data.toList.length := by rw [Array.length_toList]; exact hq
    have hfz := HRow.out.live q (by have := HRow.out.fits; omega)
    have hcl := HRow.out.cell q hlq
    have hgo := List.getElem?_eq_getElem hlq
    generalize J.data.toList[q] = old at *
    have hpw : 0 < (2 : Int) ^ r % 256 ∧ (2 : Int) ^ r % 256 < 256 := by
      match r, hr8 with
      | 0, _ => decide
      | 1, _ => decide
      | 2, _ => decide
      | 3, _ => decide
      | 4, _ => decide
      | 5, _ => decide
      | 6, _ => decide
      | 7, _ => decide
    obtain ⟨y, hy, hyo⟩ := xor8 old ((2 : Int) ^ r % 256) hpw.1 hpw.2
    have HYN : Hid (J.data.toList[q]? ≠ some y) := by
      show ¬ _
      rw [hgo]; intro e; exact hyo (Option.some.inj e).symm
    have HS : Hid _ := HRow.out.set q hlq y
    have HY : Hid _ := hy
    have hb4 := HRow.out.set_below b4 (by omega) q (.int .u8 (y.toNat : Int))
    have HQ : Hid (q < J.size) := hq
    clear hqq hrr hcv hgo hpw hy hyo hmz hm hmJ; go_region
    rw [HY.out]
    have hrow := HS.out.below ((Below.refl _ _).drew)
    have b5 := hb4.drew
    clear hb4 HS HRow b4 hcl hfz; generalize (w4.setCell ⟨g, q, none⟩ (.int .u8 (y.toNat : Int))).drew = w5 at *
    have hcv := hrow.string (P := Tryz.prog) 57 9 5 Tryz.underlying57 Tryz.underlying5 Tryz.underlying9 w5 (Below.refl _ _)
    have hsl : J.data.toList.length = J.size := Array.length_toList
    rw [List.length_set, hsl] at hcv
    have CX : Hid (∀ W, Calls Tryz.prog 17 #[.string ⟨(J.data.toList.set q y).toArray⟩] W fun e w' => (∃ E, E ≠ 0 ∧ DecR W.heap.size zeroS E e w') ∧ Below W.heap.size W w') := fun W => CD.out W q y HQ.out HYN.out
    have B5 : Hid _ := b5
    generalize (⟨(J.data.toList.set q y).toArray⟩ : ByteArray) = X at *
    clear hrow hlq hsl CD HYN b5; go_wp2_with fail
    refine (CX.out _).mono ?_
    rintro e w6 ⟨⟨E, hE, N6, L6, rfl, hS6⟩, b6⟩; have B6 : Hid _ := bel_tr B5.out b6
    have hn6 : N6.n = 0 := hS6.lx.len.symm
    have hEb : (E != 0) = true := by simpa using hE
    obtain ⟨Na, Nn, Nc⟩ := N6
    simp only at hn6
    subst hn6; clear hcv b6 hS6 CX; unfold spV zeroS; simp only
    go_wp2; go_ret; exact ⟨rfl, bel_tr B6.out (bel_al _ _)⟩
theorem walk (a0 : Option Addr) (b0 off0 cap0 : Nat) (ss0 : List ER) (ct : Int) (W : World) (h0 : Eds W a0 b0 off0 ss0 ∧ ss0.length ≤ cap0) (h1 : (Lit.int .i64 ct).wf = true) :
    Calls Tryz.prog 7 #[.slice a0 ss0.length cap0, .int .i64 ct] W fun e w' => e = .returned (.bool true) ∧ Below W.heap.size W w' :=
  walk_b a0 b0 off0 cap0 _ ss0 ct W rfl h0.1 (bounds_i64 h1).1 (bounds_i64 h1).2
theorem lifted (os : Os) (started : os.Started) (H : Type) (enc : TypeId × Value → H) :
    ReturnsInHanded {} Tryz.checked os 7 .any (Rows.imageBitSpec.pre6 enc Tryz.prog Tryz.f7 Rows.imageBitRow.domain false) (Rows.imageBitSpec.post enc Tryz.prog Tryz.f7 false true false false) := by
  refine returnsInHanded_of_change (C := Tryz.checked) own started (by kernel_rfl) Tryz.func7
    (ChangeSpec.witness6 (enc := enc) (C := Tryz.checked) false ⟨#[], #[.slice none 0 0, .int .i64 0], []⟩ 8 (by kernel_rfl) (by kernel_rfl) (by kernel_rfl) (by kernel_rfl)) ?_
  intro W base args ds gs before hval0 hW hcnd _
  have hval : ∀ (j : Nat) t v, Tryz.f7.params[j]? = some t → args[j]? = some v → Value.okWide Tryz.prog W .any base t v := hval0
  have hW' := hW
  obtain ⟨p, q, hA0, hV, rfl, hfz, hnd⟩ := hW
  have hA : DataW.TrodAll enc Tryz.prog W 0 (fun _ => true) true Tryz.f7.params.toList args.toList ds p := hA0
  rw [Tryz.params7] at hA hval
  obtain ⟨v0, vs0, d0, ds0, p0, q0, hargs, rfl, rfl, h0, r0⟩ := trodAll_cons hA
  obtain ⟨v1, vs1, d1, ds1, p1, q1, rfl, rfl, rfl, h1, r1⟩ := trodAll_cons r0
  obtain ⟨rfl, rfl, rfl⟩ := trodAll_nil r1
  obtain rfl : args = #[v0, v1] := by cases args; simp_all
  obtain ⟨rfl, rfl⟩ := trodVars_none hV
  obtain ⟨a0, len0, cap0, rfl⟩ := okWide_slice Tryz.underlying22 (hval 0 22 v0 rfl rfl)
  have k0 := h0
  have lt0 : ∀ x ∈ p0, x.block < W.heap.size := by obtain ⟨m, hm⟩ := k0; exact DataW.trod_lt m _ _ _ hm
  obtain ⟨b0, off0, ss0, rfl, w0⟩ := Spa.open_edits h0
  obtain ⟨a1, rfl, rfl, rfl, w1⟩ := open_int Tryz.underlying3 (hval 1 3 v1 rfl rfl) h1
  clear hA0 hval0; refine (walk a0 b0 off0 cap0 ss0 a1 W w0 w1).mono fun e W' ⟨he, bel⟩ => ?_
  subst he; exact ⟨_, rfl, _, _, _, [], _, [], hW', trodAll_mk1 (shut_bool Tryz.underlying4 _), (trodAll_cons_mk (Below.trod laidOut (by kernel_rfl) (of_decide_eq_true (by kernel_rfl)) k0 bel lt0) (trodAll_cons_mk (shut_int Tryz.underlying3 w1) trodAll_mk0)), rfl, bel.frame _, fun h => by cases h⟩
theorem over : Rows.imageBitRow.holds Tryz.pinned (OpenSpec.ofChange Rows.imageBitSpec) :=
  OpenClaim.holds_of_wide 7 Tryz.f7 rfl rfl rfl rfl rfl rfl rfl ⟨rfl, rfl, rfl, rfl, rfl⟩ rfl rfl rfl rfl rfl (by kernel_rfl) Tryz.func7 (by kernel_rfl)
    (of_decide_eq_true (by kernel_rfl)) (by unfold Func.isWrapper; first | (rw [if_pos (by decide +kernel)]; kernel_rfl) | (rw [if_neg (by decide +kernel)]; exact ⟨rfl, rfl⟩))
    (fun os started H enc _ => lifted os started H enc)
end Go.Proofs.YtdilfbfkeiaafaaGreat.imageBit
namespace Go.Proofs.YtdilfbfkeiaafaaGreat
theorem imageBit_holds : Rows.ImageBitSaid := imageBit.over
#print axioms imageBit_holds
end Go.Proofs.YtdilfbfkeiaafaaGreat
