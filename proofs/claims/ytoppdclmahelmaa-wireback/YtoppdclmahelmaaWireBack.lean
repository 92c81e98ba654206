/- WireBack: for every number of 64 bits, every float64, every two strings and every list of strings: the statement's function returns true; nothing that was there is changed. No condition. -/
import Derived.Test.YtoppdclmahelmaaWireBackM
import Derived.Test.YtoppdclmahelmaaWireListR
import Derived.Test.YtoppdclmahelmaaWireOpen
import Derived.Laws.Cover2
import Derived.SizedLaws
namespace Go.Proofs.Ytoppdclmahelmaa.wireBack
open Go.ChangeShapes Go.WideShapes Go.ChangeAt Go.RowKit
open Go.ChangeMaps (open_string shut_string)
set_option linter.unusedVariables false

theorem own : ownKnob Try.prog.godebug = none := by kernel_rfl

theorem own_strs {w : World} {base : Nat} {v : Value} {ss : List ByteArray} (h : w.ownsRow base 9 1 v ss.length (ss.map Value.string)) (hl : ss.length ≤ 1000) (hx : ∀ x ∈ ss, x.size ≤ maxLen) :
    ∃ a b cap, v = .slice a ss.length cap ∧ Strs w a b 0 ss := by
  rcases h.2 with ⟨rfl, h0⟩ | ⟨g, cap, cur, rfl, hb, _⟩
  · exact ⟨none, 0, 0, by rw [h0], fun hp => by omega, fun j hj => by omega, hx, by unfold maxLen; omega⟩
  · refine ⟨_, g, cap, rfl, fun _ => rfl, fun j hj => ?_, hx, by unfold maxLen; omega⟩
    rw [Nat.zero_add, h.cellAt j (by omega)]
    simp [hj]

theorem join_val (a : Option Addr) (b off cap : Nat) (ss : List ByteArray) (V : Value) (w : World) (hS : Strs w a b off ss) (hV : joinV ss = V) :
    Calls Try.prog 23 #[.slice a ss.length cap] w fun e w' => e = .returned V ∧ Below w.heap.size w w' := by
  subst hV; exact join_any a b off cap ss w hS

theorem split_val (ss : List ByteArray) (h : joinOk ss = true) (hx : ∀ x ∈ ss, x.size ≤ maxLen) (w : World) :
    Calls Try.prog 26 #[.string ⟨(joinB ss).toArray⟩] w fun e w' => ∃ a b cap, e = .returned (.tuple #[.slice a ss.length cap, .int .i64 0]) ∧ Strs w' a b 0 ss ∧ Below w.heap.size w w' := by
  refine (split_any _ w (join_size ss h)).mono fun e w' ⟨h1, h2⟩ => ?_
  rw [split_back ss h] at h1
  obtain ⟨v, rfl, h3, h4, _⟩ := h1
  obtain ⟨a, b, cap, rfl, S⟩ := own_strs h3 h4 hx
  exact ⟨a, b, cap, rfl, S, h2⟩

theorem takeReal_val (s : ByteArray) (b : Nat) (r : ByteArray) (w : World) (hs : s.size ≤ maxLen) (h : takeR s = some b) (hr : s.extract 8 s.size = r) :
    Calls Try.prog 14 #[.string s] w fun e w' => e = .returned (.tuple #[.float .f64 b, .string r, .int .i64 0]) ∧ Below w.heap.size w w' := by
  subst hr; exact takeReal_any s _ w hs (by rw [h])

set_option maxRecDepth 100000 in
set_option maxHeartbeats 4000000 in
theorem walk_b (a0 : Int) (a1 : Nat) (a2 : ByteArray) (a3 : Option Addr) (b3 off3 cap3 : Nat) (ss3 : List ByteArray) (a4 : ByteArray) (w : World) (h0 : -9223372036854775808 ≤ a0) (h0' : a0 ≤ 9223372036854775807) (h1 : a1 < 18446744073709551616)
    (S3 : Strs w a3 b3 off3 ss3) (z2 : a2.size ≤ 140737488351232) (z4 : a4.size ≤ 140737488351232) :
    Calls Try.prog 7 #[.int .i64 a0, .float .f64 a1, .string a2, .slice a3 ss3.length cap3, .string a4] w fun e w' => e = .returned (.bool true) ∧ Below w.heap.size w w' := by
  obtain ⟨N, hN⟩ : ∃ N : ByteArray, ⟨(numB a0).toArray⟩ = N := ⟨_, rfl⟩
  obtain ⟨R, hR⟩ : ∃ R : ByteArray, ⟨(beB (realZ a1)).toArray⟩ = R := ⟨_, rfl⟩
  have hNs : N.size ≤ 10 := by rw [← hN, mk_size]; exact numB_len h0 h0'
  have hRs : R.size = 8 := by rw [← hR, mk_size, beB_len]
  have HN : Hid (⟨(numB a0).toArray⟩ = N) := hN
  have HR : Hid (⟨(beB (realZ a1)).toArray⟩ = R) := hR
  have HT : Hid (takeNumV (N ++ a4) = .tuple #[.int .i64 a0, .string a4, .int .i64 0]) := by rw [← hN]; exact take_back a0 a4 h0 h0'
  obtain ⟨G, hG⟩ : ∃ G : Nat, realZ a1 = G := ⟨_, rfl⟩
  have HTR : Hid (takeR (R ++ a4) = some G) := by rw [← hR, ← hG]; exact takeR_back a1 a4 h1
  have HR2 : Hid (⟨(beB (realZ G)).toArray⟩ = R) := by rw [← hR, ← hG, realZ_twice]; rfl
  have hF : (FloatKind.f64.format.order G a1 != some Ordering.eq) = false ∨ ((FloatKind.f64.format.order G a1 != some Ordering.eq) = true ∧ (FloatKind.f64.format.order G G == some Ordering.eq) = false ∧ (FloatKind.f64.format.order a1 a1 == some Ordering.eq) = false) := by
    rcases realZ_cases a1 with ⟨h, e⟩ | ⟨h, e⟩
    · rw [← hG, e, nan_any, nan_any]
      unfold nanB at h
      exact .inr ⟨rfl, rfl, by simpa using h⟩
    · rw [← hG, e]; exact .inl h
  have HF : Hid _ := hF
  have HT2 : Hid (a2.size ≤ 4000 → takeT (textB a2 ++ a4) = some (a2, a4)) := fun h => takeT_back a2 a4 h
  have HTE : Hid ((R ++ a4).extract 8 (R ++ a4).size = a4) := ext_behind R a4 8 (by omega)
  have HS3 : Hid (Strs w a3 b3 off3 ss3) := S3
  have ha1 := fun (w : World) => run_string_add_sum (P := Try.prog) w N a4 (by omega)
  have ha2 := fun (w : World) => run_string_add_sum (P := Try.prog) w R a4 (by omega)
  have HL1 : Hid ((N ++ a4).size ≤ maxLen) := by show (_ : Nat) ≤ _; rw [app_size]; unfold maxLen; omega
  have HL2 : Hid ((R ++ a4).size ≤ maxLen) := by show (_ : Nat) ≤ _; rw [app_size]; unfold maxLen; omega
  clear hN hR hRs S3 hG hF
  go_enter Try.func7, Try.ntmps7
  go_wp2_with fail
  refine (examples_any _).mono ?_
  rintro e w1 ⟨rfl, b1⟩
  go_wp2_with fail
  refine (num_any a0 _ h0 h0').mono ?_
  rintro e w2 ⟨rfl, b2⟩
  rw [HN.out]
  go_wp2_with fail
  refine (takeNum_val (N ++ a4) _ _ HL1.out HT.out).mono ?_
  rintro e w3 ⟨rfl, b3'⟩
  have bb3 := bel_trans (bel_trans b1 b2) b3'
  clear b1 b2 b3' HT HL1 ha1
  go_wp2_with fail
  refine (real_any a1 _).mono ?_
  rintro e w4 ⟨rfl, b4⟩
  rw [HR.out]
  go_wp2_with fail
  refine (takeReal_val (R ++ a4) _ a4 _ HL2.out HTR.out HTE.out).mono ?_
  rintro e w5 ⟨rfl, b5⟩
  have bb5 := bel_trans (bel_trans bb3 b4) b5
  clear bb3 b4 b5 HTR HTE HL2 ha2
  go_wp2_with fail
  refine (real_any G _).mono ?_
  rintro e w6 ⟨rfl, b6⟩
  rw [HR2.out]
  go_wp2_with fail
  refine (real_any a1 _).mono ?_
  rintro e w7 ⟨rfl, b7⟩
  rw [HR.out]
  have bb7 := bel_trans (bel_trans bb5 b6) b7
  clear bb5 b6 b7 HR HR2 HN hNs
  rcases HF.out with f1 | ⟨f1, f2, f3⟩
  all_goals
    clear HF
    by_cases ht : a2.size ≤ 4000
    · have hts : (textB a2).size ≤ 4010 := by rw [← size_list]; exact textB_len a2 ht
      have ha3 := fun (w : World) => run_string_add_sum (P := Try.prog) w (textB a2) a4 (by omega)
      have HL3 : Hid ((textB a2 ++ a4).size ≤ maxLen) := by show (_ : Nat) ≤ _; rw [app_size]; unfold maxLen; omega
      go_wp2_with fail
      refine (text_yes a2 _ ht).mono ?_
      rintro e w8 ⟨rfl, b8⟩
      go_wp2_with fail
      refine (takeText_yes (textB a2 ++ a4) a2 a4 _ HL3.out (HT2.out ht)).mono ?_
      rintro e w9 ⟨rfl, b9⟩
      have bb9 := bel_trans (bel_trans bb7 b8) b9
      clear bb7 b8 b9 hts ha3 HL3 HT2
      cases hj : joinOk ss3 with
      | true =>
        have HJ : Hid (joinOk ss3 = true) := hj
        clear hj
        go_wp2_with fail
        refine (join_val a3 b3 off3 cap3 ss3 _ _ (HS3.out.below bb9) (joinV_yes HJ.out)).mono ?_
        rintro e w10 ⟨rfl, b10⟩
        go_wp2_with fail
        refine (split_val ss3 HJ.out HS3.out.small _).mono ?_
        rintro e w11 ⟨ag, bg, cg, rfl, Sg, b11⟩
        have bb11 := bel_trans (bel_trans bb9 b10) b11
        clear bb9 b10 b11
        go_wp2_with fail
        refine (texts_same ag a3 bg 0 cg b3 off3 cap3 ss3 _ Sg (HS3.out.below bb11)).mono ?_
        rintro e w12 ⟨rfl, b12⟩
        have bb12 := bel_trans bb11 b12
        clear bb11 b12 Sg HS3 HJ
        go_wp2
        go_ret
        exact ⟨rfl, bb12⟩
      | false =>
        have HJ : Hid (joinOk ss3 = false) := hj
        clear hj
        go_wp2_with fail
        refine (join_val a3 b3 off3 cap3 ss3 _ _ (HS3.out.below bb9) (joinV_no HJ.out)).mono ?_
        rintro e w10 ⟨rfl, b10⟩
        have bb10 := bel_trans bb9 b10
        clear bb9 b10 HS3 HJ
        go_wp2
        go_ret
        exact ⟨rfl, bb10⟩
    · clear HT2
      go_wp2_with fail
      refine (text_no a2 _ (by omega)).mono ?_
      rintro e w8 ⟨rfl, b8⟩
      have bb9 := bel_trans bb7 b8
      clear bb7 b8
      cases hj : joinOk ss3 with
      | true =>
        have HJ : Hid (joinOk ss3 = true) := hj
        clear hj
        go_wp2_with fail
        refine (join_val a3 b3 off3 cap3 ss3 _ _ (HS3.out.below bb9) (joinV_yes HJ.out)).mono ?_
        rintro e w10 ⟨rfl, b10⟩
        go_wp2_with fail
        refine (split_val ss3 HJ.out HS3.out.small _).mono ?_
        rintro e w11 ⟨ag, bg, cg, rfl, Sg, b11⟩
        have bb11 := bel_trans (bel_trans bb9 b10) b11
        clear bb9 b10 b11
        go_wp2_with fail
        refine (texts_same ag a3 bg 0 cg b3 off3 cap3 ss3 _ Sg (HS3.out.below bb11)).mono ?_
        rintro e w12 ⟨rfl, b12⟩
        have bb12 := bel_trans bb11 b12
        clear bb11 b12 Sg HS3 HJ
        go_wp2
        go_ret
        exact ⟨rfl, bb12⟩
      | false =>
        have HJ : Hid (joinOk ss3 = false) := hj
        clear hj
        go_wp2_with fail
        refine (join_val a3 b3 off3 cap3 ss3 _ _ (HS3.out.below bb9) (joinV_no HJ.out)).mono ?_
        rintro e w10 ⟨rfl, b10⟩
        have bb10 := bel_trans bb9 b10
        clear bb9 b10 HS3 HJ
        go_wp2
        go_ret
        exact ⟨rfl, bb10⟩

theorem float_lt {a : Nat} (h : (Lit.float .f64 a).wf = true) : a < 18446744073709551616 := by
  simpa [Lit.wf] using h

theorem walk (a0 : Int) (a1 : Nat) (a2 : ByteArray) (a3 : Option Addr) (b3 off3 cap3 : Nat) (ss3 : List ByteArray) (a4 : ByteArray) (w : World) (w0 : (Lit.int .i64 a0).wf = true) (w1 : (Lit.float .f64 a1).wf = true) (w2 : a2.size ≤ maxLen)
    (w3 : Strs w a3 b3 off3 ss3) (w4 : a4.size ≤ maxLen) (z2 : a2.size ≤ 140737488351232) (z4 : a4.size ≤ 140737488351232) :
    Calls Try.prog 7 #[.int .i64 a0, .float .f64 a1, .string a2, .slice a3 ss3.length cap3, .string a4] w fun e w' => e = .returned (.bool true) ∧ Below w.heap.size w w' :=
  walk_b a0 a1 a2 a3 b3 off3 cap3 ss3 a4 w (bounds_i64 w0).1 (bounds_i64 w0).2 (float_lt w1) w3 z2 z4

set_option maxRecDepth 100000 in
theorem lifted (os : Os) (started : os.Started) (H : Type) (enc : TypeId × Value → H) :
    ReturnsInHanded {} Try.checked os 7 .any (Rows.wireBackSpec.pre6 enc Try.prog Try.f7 Rows.wireBackRow.domain false) (Rows.wireBackSpec.post enc Try.prog Try.f7 false true false false) := by
  refine returnsInHanded_of_change_sized (C := Try.checked) own started (by kernel_rfl) Try.func7
    (ChangeSpec.witness6 (enc := enc) (C := Try.checked) false ⟨#[], #[.int .i64 0, .float .f64 0, .string ByteArray.empty, .slice none 0 0, .string ByteArray.empty], []⟩ 8 (by kernel_rfl) (by kernel_rfl) (by kernel_rfl) (by kernel_rfl)) ?_
  intro W base args ds gs before hval0 hW hcnd hsz0 _
  have hval : ∀ (j : Nat) t v, Try.f7.params[j]? = some t → args[j]? = some v → Value.okWide Try.prog W .any base t v := hval0
  have hW' := hW
  obtain ⟨p, q, hA0, hV, rfl, hfz, hnd⟩ := hW
  have hA : DataW.TrodAll enc Try.prog W 0 (fun _ => true) true Try.f7.params.toList args.toList ds p := hA0
  have hsz : (DataW.weightsEach Try.prog (Try.f7.params.toList ++ Rows.wireBackSpec.plain.varTypes Try.prog) (ds ++ gs)).all (· ≤ reachBytes) = true := hsz0
  rw [Try.params7] at hA hval hsz
  obtain ⟨v0, vs0, d0, ds0, p0, q0, hargs, rfl, rfl, h0, r0⟩ := trodAll_cons hA
  obtain ⟨v1, vs1, d1, ds1, p1, q1, rfl, rfl, rfl, h1, r1⟩ := trodAll_cons r0
  obtain ⟨v2, vs2, d2, ds2, p2, q2, rfl, rfl, rfl, h2, r2⟩ := trodAll_cons r1
  obtain ⟨v3, vs3, d3, ds3, p3, q3, rfl, rfl, rfl, h3, r3⟩ := trodAll_cons r2
  obtain ⟨v4, vs4, d4, ds4, p4, q4, rfl, rfl, rfl, h4, r4⟩ := trodAll_cons r3
  obtain ⟨rfl, rfl, rfl⟩ := trodAll_nil r4
  obtain rfl : args = #[v0, v1, v2, v3, v4] := by cases args; simp_all
  obtain ⟨rfl, rfl⟩ := trodVars_none hV
  obtain ⟨a0, rfl, rfl, rfl, w0⟩ := open_int Try.underlying3 (hval 0 3 v0 rfl rfl) h0
  obtain ⟨a1, rfl, rfl, rfl, w1⟩ := open_float Try.underlying30 (hval 1 30 v1 rfl rfl) h1
  obtain ⟨a2, rfl, rfl, rfl, w2⟩ := open_string Try.underlying9 (hval 2 9 v2 rfl rfl) h2
  obtain ⟨a3, len3, cap3, rfl⟩ := okWide_slice Try.underlying47 (hval 3 47 v3 rfl rfl)
  have k3 := h3
  have lt3 : ∀ x ∈ p3, x.block < W.heap.size := by obtain ⟨m, hm⟩ := k3; exact DataW.trod_lt m _ _ _ hm
  obtain ⟨b3, off3, ss3, rfl, w3⟩ := open_strs Try.underlying47 Try.underlying9 (by kernel_rfl) h3
  obtain ⟨a4, rfl, rfl, rfl, w4⟩ := open_string Try.underlying9 (hval 4 9 v4 rfl rfl) h4
  have z2 : a2.size ≤ 140737488351232 := by have h := sized_string hsz (j := 2) (t := 9) rfl rfl; rw [Array.length_toList] at h; exact h
  have z4 : a4.size ≤ 140737488351232 := by have h := sized_string hsz (j := 4) (t := 9) rfl rfl; rw [Array.length_toList] at h; exact h
  clear hA0 hval0
  refine (walk a0 a1 a2 a3 b3 off3 cap3 ss3 a4 W w0 w1 w2 w3 w4 z2 z4).mono fun e W' ⟨he, bel⟩ => ?_
  subst he
  exact ⟨_, rfl, _, _, _, [], _, [], hW', trodAll_mk1 (shut_bool Try.underlying4 _), (trodAll_cons_mk (shut_int Try.underlying3 w0) (trodAll_cons_mk (shut_float Try.underlying30 w1) (trodAll_cons_mk (shut_string Try.underlying9 w2) (trodAll_cons_mk (Below.trod laidOut (by kernel_rfl) (of_decide_eq_true (by kernel_rfl)) k3 bel lt3) (trodAll_cons_mk (shut_string Try.underlying9 w4) trodAll_mk0))))), rfl, bel.frame _, fun h => by cases h⟩

theorem over : Rows.wireBackRow.holds Try.pinned (OpenSpec.ofChange Rows.wireBackSpec) :=
  OpenClaim.holds_of_wide 7 Try.f7 rfl rfl rfl rfl rfl rfl rfl ⟨rfl, rfl, rfl, rfl, rfl⟩ rfl rfl rfl rfl rfl (by kernel_rfl) Try.func7 (by kernel_rfl)
    (of_decide_eq_true (by kernel_rfl)) (by unfold Func.isWrapper; first | (rw [if_pos (by decide +kernel)]; kernel_rfl) | (rw [if_neg (by decide +kernel)]; exact ⟨rfl, rfl⟩))
    (fun os started H enc _ => lifted os started H enc)
end Go.Proofs.Ytoppdclmahelmaa.wireBack

namespace Go.Proofs.Ytoppdclmahelmaa
/-- The statement. -/
theorem wireBack_holds : Rows.WireBackSaid := wireBack.over
#print axioms wireBack_holds
end Go.Proofs.Ytoppdclmahelmaa
