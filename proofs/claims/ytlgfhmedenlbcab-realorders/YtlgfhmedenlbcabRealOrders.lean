/- RealOrders: for every two fractions and every slice of them: the statement's function returns true; nothing that was there is changed. No condition. -/
import Derived.Test.YtlgfhmedenlbcabRealSort
import Derived.Test.YtlgfhmedenlbcabRealCnt
import Derived.Test.YtlgfhmedenlbcabRealSh
import Derived.Test.YtlgfhmedenlbcabRealRefS
import Derived.Laws.Cover2
namespace Go.Proofs.Ytlgfhmedenlbcab.realOrders
open Go.ChangeShapes Go.WideShapes Go.ChangeAt Go.RowKit
open Go.ChangeMaps (open_string shut_string)
set_option linter.unusedVariables false

theorem own : ownKnob Try.prog.godebug = none := by kernel_rfl

/-- A slice of fractions, as what is appended. -/
theorem src_flts {w : World} {a : Option Addr} {b off n c : Nat} {xs : List Nat} (h : Flts w a b off xs) (hn : xs.length = n) (hz : n = 0 → a = none ∨ ∃ p, a = some p) : Src Try.prog 1 23 (.slice a n c) n (fltCells xs) w := by
  by_cases h0 : n = 0
  · have e : xs = [] := List.length_eq_zero_iff.1 (hn.trans h0)
    subst e
    rcases hz h0 with rfl | ⟨p, rfl⟩
    · rw [h0]; exact Src.ofNil w Try.underlying23 c
    · rw [h0]; exact Src.ofSlice w Try.underlying23 p 0 _ [] rfl (fun j u hu => by simp at hu) (fun u hu => by cases hu)
  · rw [h.addr (by omega)]
    refine Src.ofSlice w Try.underlying23 ⟨b, off, none⟩ n _ (fltCells xs) (by rw [fltCells_len]; omega) (fun j u hu => ?_) (flt_one _)
    rw [Addr.add_lit]
    obtain ⟨hj1, hj2⟩ := List.getElem?_eq_some_iff.1 hu
    rw [fltCells_len] at hj1
    rw [h.cell j hj1, ← hj2]
    simp [fltCells]

theorem flts_cel {O : Nat → Prop} {w : World} {a : Option Addr} {n c : Nat} {xs : List Nat} {g : Option Nat} (h : Cel O w 1 (.slice a n c) n (fltCells xs) g) : Flts w a (g.getD 0) 0 xs := by
  have hl := h.len
  rw [fltCells_len] at hl
  cases h with
  | nil h1 h2 h3 =>
    have e : xs = [] := List.length_eq_zero_iff.1 (by omega)
    subst e
    exact ⟨fun h => by simp at h, fun j hj => by simp at hj⟩
  | row g cap h1 hl2 h2 h3 h4 h5 h6 h7 =>
    cases h1
    refine ⟨fun _ => rfl, fun j hj => ?_⟩
    have := h6 j (by rw [fltCells_len]; exact hj)
    rw [Nat.zero_add, Option.getD_some, this]
    simp [fltCells]

theorem flts_row {base : Nat} {w : World} {g : Nat} {xs : List Nat} (h : RowF base w g xs) : Flts w (some ⟨g, 0, none⟩) g 0 xs :=
  ⟨fun _ => rfl, fun j hj => by rw [Nat.zero_add, h.cell j hj, at0_eq _ _ hj]⟩

set_option maxRecDepth 100000 in
set_option maxHeartbeats 2000000 in
theorem walk (p0 p1 : Nat) (a0 : Option Addr) (b0 off0 cap0 : Nat) (xs : List Nat) (w : World) (hp0 : (Lit.float .f64 p0).wf = true) (hp1 : (Lit.float .f64 p1).wf = true) (h0 : Flts w a0 b0 off0 xs ∧ (xs.length ≤ maxLen ∧ xs.length ≤ cap0) ∧ ∀ x ∈ xs, x < 18446744073709551616) :
    Calls Try.prog 3 #[.float .f64 p0, .float .f64 p1, .slice a0 xs.length cap0] w fun e w' => e = .returned (.bool true) ∧ Below w.heap.size w w' := by
  obtain ⟨ti, hi1, hi2, hi3, hi4⟩ := f64row
  have q0 : p0 < 18446744073709551616 := by simpa [Lit.wf] using hp0
  have q1 : p1 < 18446744073709551616 := by simpa [Lit.wf] using hp1
  obtain ⟨hI, ⟨hl, hcap⟩, hx⟩ := h0
  obtain ⟨n, hlen⟩ : ∃ n, xs.length = n := ⟨_, rfl⟩
  rw [hlen] at hl hcap ⊢
  obtain ⟨M, hM⟩ : ∃ M : Nat, min (n : Int) 100 = (M : Int) := ⟨min n 100, by omega⟩
  have hM60 : M ≤ 100 := by omega
  have hMn : M ≤ n := by omega
  obtain ⟨xt, hxt⟩ : ∃ xt, xs.take M = xt := ⟨_, rfl⟩
  have hMl : xt.length = M := by rw [← hxt, List.length_take]; omega
  have hIt : Flts w a0 b0 off0 xt := by rw [← hxt]; exact hI.take M
  have hxb : ∀ x ∈ xt, x < 18446744073709551616 := by rw [← hxt]; exact fun x h => hx x (List.mem_of_mem_take h)
  have CS : Hid _ := fun a b off cap w h => sort_val a b off cap M xt w hMl (by omega) h hxb
  have CR : Hid _ := fun a b off cap w h => refSort_val a b off cap M xt w hMl (by omega) h hxb
  obtain ⟨Z, hZ⟩ : ∃ Z, cmpZ (key p0) (key p1) = Z := ⟨_, rfl⟩
  have CO : Hid _ := fun w => order_val p0 p1 Z w q0 q1 hZ
  have CP : Hid _ := fun w => refOrder_val p0 p1 Z w q0 q1 hZ
  have HI : Hid _ := hIt
  have HX : Hid _ := hxb
  have HL : Hid _ := hMl
  clear hI hIt hx hxb hMl hlen hxt hZ hp0 hp1 q0 q1
  unfold maxLen at hl
  go_enter Try.func3, Try.ntmps3
  go_wp2_with fail
  refine (examples3_any _).mono ?_
  rintro e w1 ⟨rfl, rfl⟩
  rename World => w
  go_wp2_with (at_builtin; refine wpList_append_cel _ rfl _ _ 23 23 rfl 22 ti (.float .f64 0) 1 8 Try.underlying23 hi1 hi2 hi3 hi4 rfl (O := fun k => w.heap.size ≤ k) (.slice none 0 0) 0 [] none rfl (.nil rfl rfl rfl) _ M (fltCells xt) rfl (src_flts HI.out HL.out (fun _ => by cases a0 <;> simp)) (by unfold maxLen; omega) (by omega) ?_; intro oa oc w1 g1 hC1 hst1 hf1)
  have hb1 := stay_none hst1
  have hC1' := Cel.low (Nat.le_refl _) hC1
  simp only [Nat.zero_add, List.nil_append] at hC1'
  have HO : Hid _ := flts_cel hC1'
  have HI1 : Hid _ := HI.out.below hb1
  have HB1 : Hid _ := hb1
  clear hC1 hst1 hf1 hb1
  go_wp2_with fail
  have hlt1 : ∀ k, g1 = some k → k < w1.heap.size ∧ w.heap.size ≤ k := fun k hk => by rw [hk] at hC1'; exact hC1'.lt
  have HLT : Hid _ := hlt1
  have HC1 : Hid _ := hC1'
  clear hlt1 hC1'
  refine (CS.out _ _ _ _ _ HO.out).mono ?_
  rintro e w2 ⟨rfl, ys, hs, hway⟩
  have hbel2 := hway.bel
  have HS : Hid _ := hs
  have HP : Hid _ := hway.perm
  have HR2 : Hid _ := hway.row
  have HB2 : Hid _ := hway.bel
  have HI2 : Hid _ := HI1.out.below hway.bel
  clear hs hway CS hbel2
  generalize hG : w1.heap.size = G at *
  go_wp2_with fail
  refine (CR.out _ _ _ _ _ HI2.out).mono ?_
  rintro e w3 ⟨ra, rc, g3, zs, rfl, hC3, hp3, hs3, hb3⟩
  have HR3 : Hid _ := HR2.out.below hb3
  have HI3 : Hid _ := HI2.out.below hb3
  have HB3 : Hid _ := hb3
  have HF3 : Hid _ := flts_cel hC3
  have HPZ : Hid _ := hp3
  have HSZ : Hid _ := hs3
  clear hC3 hp3 hs3 hb3 CR
  have hyl : ys.length = M := by rw [HP.out.length_eq, HL.out]
  have hzl : zs.length = M := by rw [HPZ.out.length_eq, HL.out]
  have R1 : Hid _ := fun (_ : Unit) => reals_val (some ⟨G, 0, none⟩) G 0 M ra (g3.getD 0) 0 rc M ys zs w3 hyl hzl (by omega) (flts_row HR3.out) HF3.out (lt_of_perm HP.out HX.out) (lt_of_perm HPZ.out HX.out) (fun j hj => sorted_same hzl (HP.out.trans HPZ.out.symm) HSZ.out HS.out j hj)
  have HYL : Hid _ := hyl
  clear hyl hzl
  go_wp2_with fail
  refine (R1.out ()).mono ?_
  rintro e w4 ⟨rfl, d4, hw4⟩
  clear R1
  have hR4 : RowF G w4 G ys := by rw [hw4]; exact HR3.out.drew d4
  have hB4 : Below G w1 w4 := by
    rw [hw4]
    exact below_drewN (HB2.out.trans (HB3.out.mono (by rw [← hG]; exact HB2.out.size))) d4
  have HR4 : Hid _ := hR4
  have HB4 : Hid _ := hB4
  clear HR3 hw4 HF3 HPZ HSZ hR4 hB4 HB2 HB3 HR2 HI2 HI3 HS HP
  have hst := run_store_flt
  go_wp2
  go_loopw [11] (fun v wr => ∃ (i : Nat) (cur : List Nat), i ≤ M ∧ v = .int .i64 i ∧ cur.length = M ∧ RowF G wr G cur ∧ Below G w1 wr) (fun v _ => M - (intOf v).toNat)
  case atStart => exact ⟨0, ys, by omega, rfl, HYL.out, HR4.out, HB4.out⟩
  case round =>
    obtain ⟨i, cur, hi, rfl, hcl, hrow, hbel⟩ := hrel
    by_cases hlt : i < M
    · have hc := hrow.cell i (by omega)
      have hlv := hrow.live i (by omega)
      have HRn : Hid _ := hrow.set i (by omega) 4619567317775286272
      have HBn : Hid _ := hbel.setCell (p := ⟨G, i, none⟩) (Nat.le_refl _) (.float .f64 4619567317775286272)
      have HCL : Hid (( cur.set i 4619567317775286272).length = M) := by rw [List.length_set]; exact hcl
      clear hrow hbel hcl
      generalize at0 cur i = v0 at *
      go_wp2
      go_roundw
      case rel => exact ⟨i + 1, _, by omega, by go_num, HCL.out, HRn.out, HBn.out⟩
      case measure => simp [intOf]; omega
    · obtain rfl : i = M := by omega
      have hBw : Below w1.heap.size w1 wr := by rw [hG]; exact hbel
      have R2 : Hid _ := fun (_ : Unit) => reals_val oa (g1.getD 0) 0 oc a0 b0 off0 cap0 i xt xt wr HL.out HL.out (by omega) (HO.out.below hBw) (HI1.out.below hBw) HX.out HX.out (fun j hj => rfl)
      have HBW : Hid (Below w.heap.size w wr) := HB1.out.trans (hBw.mono HB1.out.size)
      clear hrow hbel hcl hBw
      go_wp2_with fail
      refine (R2.out ()).mono ?_
      rintro e w5 ⟨rfl, d5, hw5⟩
      have HW5 : Hid _ := hw5
      clear hw5 R2
      go_wp2_with fail
      refine (CO.out _).mono ?_
      rintro e w6 ⟨rfl, rfl⟩
      go_wp2_with fail
      refine (CP.out _).mono ?_
      rintro e w7 ⟨rfl, rfl⟩
      go_wp2
      go_ret
      exact ⟨by simp, by rw [HW5.out]; exact below_drewN HBW.out _⟩

set_option maxRecDepth 100000 in
theorem lifted (os : Os) (started : os.Started) (H : Type) (enc : TypeId × Value → H) :
    ReturnsInHanded {} Try.checked os 3 .any (Rows.realOrdersSpec.pre6 enc Try.prog Try.f3 Rows.realOrdersRow.domain false) (Rows.realOrdersSpec.post enc Try.prog Try.f3 false true false false) := by
  refine returnsInHanded_of_change (C := Try.checked) own started (by kernel_rfl) Try.func3
    (ChangeSpec.witness6 (enc := enc) (C := Try.checked) false ⟨#[], #[.float .f64 0, .float .f64 0, .slice none 0 0], []⟩ 8 (by kernel_rfl) (by kernel_rfl) (by kernel_rfl) (by kernel_rfl)) ?_
  intro W base args ds gs before hval0 hW hcnd _
  have hval : ∀ (j : Nat) t v, Try.f3.params[j]? = some t → args[j]? = some v → Value.okWide Try.prog W .any base t v := hval0
  have hW' := hW
  obtain ⟨p, q, hA0, hV, rfl, hfz, hnd⟩ := hW
  have hA : DataW.TrodAll enc Try.prog W 0 (fun _ => true) true Try.f3.params.toList args.toList ds p := hA0
  rw [Try.params3] at hA hval
  obtain ⟨v0, vs0, d0, ds0, p0, q0, hargs, rfl, rfl, h0, r0⟩ := trodAll_cons hA
  obtain ⟨v1, vs1, d1, ds1, p1, q1, rfl, rfl, rfl, h1, r1⟩ := trodAll_cons r0
  obtain ⟨v2, vs2, d2, ds2, p2, q2, rfl, rfl, rfl, h2, r2⟩ := trodAll_cons r1
  obtain ⟨rfl, rfl, rfl⟩ := trodAll_nil r2
  obtain rfl : args = #[v0, v1, v2] := by cases args; simp_all
  obtain ⟨rfl, rfl⟩ := trodVars_none hV
  obtain ⟨a0, rfl, rfl, rfl, w0⟩ := open_float Try.underlying22 (hval 0 22 v0 rfl rfl) h0
  obtain ⟨a1, rfl, rfl, rfl, w1⟩ := open_float Try.underlying22 (hval 1 22 v1 rfl rfl) h1
  obtain ⟨a2, len2, cap2, rfl⟩ := okWide_slice Try.underlying23 (hval 2 23 v2 rfl rfl)
  have k2 := h2
  have lt2 : ∀ x ∈ p2, x.block < W.heap.size := by obtain ⟨m, hm⟩ := k2; exact DataW.trod_lt m _ _ _ hm
  obtain ⟨b2, off2, ss2, rfl, w2⟩ := open_flts Try.underlying23 Try.underlying22 (by kernel_rfl) h2
  clear hA0 hval0
  refine (walk a0 a1 a2 b2 off2 cap2 ss2 W w0 w1 w2).mono fun e W' ⟨he, bel⟩ => ?_
  subst he
  exact ⟨_, rfl, _, _, _, [], _, [], hW', trodAll_mk1 (shut_bool Try.underlying4 _), (trodAll_cons_mk (shut_float Try.underlying22 w0) (trodAll_cons_mk (shut_float Try.underlying22 w1) (trodAll_cons_mk (Below.trod laidOutF (by kernel_rfl) (of_decide_eq_true (by kernel_rfl)) k2 bel lt2) trodAll_mk0))), rfl, bel.frame _, fun h => by cases h⟩

theorem over : Rows.realOrdersRow.holds Try.pinned (OpenSpec.ofChange Rows.realOrdersSpec) :=
  OpenClaim.holds_of_wide 3 Try.f3 rfl rfl rfl rfl rfl rfl rfl ⟨rfl, rfl, rfl, rfl, rfl⟩ rfl rfl rfl rfl rfl (by kernel_rfl) Try.func3 (by kernel_rfl)
    (of_decide_eq_true (by kernel_rfl)) (by unfold Func.isWrapper; first | (rw [if_pos (by decide +kernel)]; kernel_rfl) | (rw [if_neg (by decide +kernel)]; exact ⟨rfl, rfl⟩))
    (fun os started H enc _ => lifted os started H enc)
end Go.Proofs.Ytlgfhmedenlbcab.realOrders

namespace Go.Proofs.Ytlgfhmedenlbcab
/-- The statement. -/
theorem realOrders_holds : Rows.RealOrdersSaid := realOrders.over
#print axioms realOrders_holds
end Go.Proofs.Ytlgfhmedenlbcab
