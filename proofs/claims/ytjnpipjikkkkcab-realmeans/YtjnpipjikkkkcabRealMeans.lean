/- RealMeans: for every slice of whole numbers and every float64: the statement's function returns true; nothing that was there is changed. No condition. -/
import Derived.Test.YtjnpipjikkkkcabRealMeansP
namespace Go.Proofs.Ytjnpipjikkkkcab.realMeans
open Go.ChangeShapes Go.WideShapes Go.ChangeAt Go.RowKit
open Go.ChangeMaps (open_string shut_string)
set_option linter.unusedVariables false

theorem own : ownKnob Try.prog.godebug = none := by kernel_rfl

set_option maxRecDepth 100000 in
set_option maxHeartbeats 2000000 in
theorem walk (a0 : Option Addr) (b0 off0 cap0 : Nat) (ns : List Int) (a1 : Nat) (w : World) (h0 : Ints w .i64 a0 b0 off0 ns ∧ ns.length ≤ maxLen ∧ ∀ n ∈ ns, (Lit.int .i64 n).wf = true) (h1 : (Lit.float .f64 a1).wf = true) :
    Calls Try.prog 4 #[.slice a0 ns.length cap0, .float .f64 a1] w fun e w' => e = .returned (.bool true) ∧ Below w.heap.size w w' := by
  obtain ⟨i0, hi, hz0, hz1, hz2⟩ := info_parts Try.infoF64
  obtain ⟨hI, hl, hw⟩ := h0
  obtain ⟨n, hlen⟩ : ∃ n, ns.length = n := ⟨_, rfl⟩
  rw [hlen] at hl ⊢
  unfold maxLen at hl
  have HL : Hid _ := hlen
  have HI : Hid _ := hI
  have HW : Hid _ := hw
  have H1 : Hid _ := h1
  clear hlen hI hw h1
  go_enter Try.func4, Try.ntmps4
  go_wp2_with fail
  refine (examples3_any _).mono ?_
  rintro e w1 ⟨rfl, rfl⟩
  rename World => w
  go_wp2
  go_loopw [6, 7, 8, 9, 10] (fun va vb vl vh c wr => ∃ k L H : Nat, k ≤ n ∧ k ≤ 50 ∧ c = .int .i64 k ∧ vl = .float .f64 L ∧ vh = .float .f64 H ∧ L = floatOfInt .f64 (lowZ (zsOf ns k)) ∧ H = floatOfInt .f64 (highZ (zsOf ns k)) ∧ wr.ownsRow w.heap.size 22 1 va k (fltCells (fis (zsOf ns k))) ∧ wr.ownsRow w.heap.size 22 1 vb (4 * k) (fltCells (bigs (zsOf ns k))) ∧ Apart va vb ∧ Below w.heap.size w wr) (fun _ _ _ _ c _ => 50 - (intOf c).toNat)
  case atStart => exact ⟨0, _, _, by omega, by omega, rfl, rfl, rfl, lo0.symm, hi0.symm, World.ownsRow_nil _ _ _ _, World.ownsRow_nil _ _ _ _, .inl rfl, Below.refl _ _⟩
  case round =>
    obtain ⟨k, L, H, hkn, hk50, rfl, rfl, rfl, hL, hH, hownA, hownB, hap, hbel⟩ := hrel
    have hsz := hbel.size
    by_cases hlt : k < n ∧ k < 50
    · obtain ⟨hlt, hlt2⟩ := hlt
      have hk : k < ns.length := by rw [HL.out]; exact hlt
      obtain rfl := HI.out.addr (by omega)
      have hc1 := (HI.out.below hbel).cell k hk
      have hwf := wf_i64 (HW.out ns[k] (List.getElem_mem hk))
      have hnext := zsOf_next ns k hk
      have hzle := zOf_le ns[k]
      have hzs := zsOf_le ns k
      generalize hN : ns[k] = N at *
      obtain ⟨z, hz⟩ : ∃ z, zOf N = z := ⟨_, rfl⟩
      obtain ⟨X, hX⟩ : ∃ X, floatOfInt .f64 z = X := ⟨_, rfl⟩
      rw [hz] at hnext hzle
      have hlz := low_abs _ hzs
      have hhz := high_abs _ hzs
      have hmin : ∀ ts t w, (Builtin.min_ ts t #[.float .f64 L, .float .f64 X]).run Try.prog w = .ok (.float .f64 (floatOfInt .f64 (min (lowZ (zsOf ns k)) z))) w := fun ts t w => by rw [hL, ← hX]; exact run_min_fi w ts t (by omega) (by omega)
      have hmax : ∀ ts t w, (Builtin.max_ ts t #[.float .f64 H, .float .f64 X]).run Try.prog w = .ok (.float .f64 (floatOfInt .f64 (max (highZ (zsOf ns k)) z))) w := fun ts t w => by rw [hH, ← hX]; exact run_max_fi w ts t (by omega) (by omega)
      rw [← low_next, ← hnext] at hmin
      rw [← high_next, ← hnext] at hmax
      obtain ⟨L', hL'⟩ : ∃ x, floatOfInt .f64 (lowZ (zsOf ns (k + 1))) = x := ⟨_, rfl⟩
      obtain ⟨H', hH'⟩ : ∃ x, floatOfInt .f64 (highZ (zsOf ns (k + 1))) = x := ⟨_, rfl⟩
      rw [hL'] at hmin
      rw [hH'] at hmax
      have HFA : Hid (fltCells (fis (zsOf ns k)) ++ [.float .f64 X] = fltCells (fis (zsOf ns (k + 1)))) := by rw [hnext, fis_next, hX, fltCells_snoc]; exact rfl
      have HFB : Hid (fltCells (bigs (zsOf ns k)) ++ fltCells [X, 9221120237041090561, 9218868437227405312, 18442240474082181120] = fltCells (bigs (zsOf ns (k + 1)))) := by rw [hnext, bigs_next, hX, fltCells_app]; exact rfl
      have HL' : Hid _ := hL'
      have HH' : Hid _ := hH'
      clear hnext hzle hzs hlz hhz hL hH hL' hH' HL HI HW H1
      generalize fltCells (fis (zsOf ns k)) = CA at *
      generalize fltCells (bigs (zsOf ns k)) = CB at *
      have hQ : ∃ Q : Nat, (N < 0 ∧ -(N + 1).tmod 2001 = (Q : Int) ∨ 0 ≤ N ∧ N % 2001 = (Q : Int)) ∧ Q ≤ 2000 ∧ floatOfInt .f64 ((Q : Int) - 1000) = X := by
        rcases Int.lt_or_le N 0 with hneg | hpos
        · obtain ⟨Q, hQ, hQl⟩ := q_neg hneg
          exact ⟨Q, .inl ⟨hneg, hQ⟩, hQl, by rw [← hX, ← hz]; unfold zOf; rw [if_pos hneg, hQ]⟩
        · obtain ⟨Q, hQ, hQl⟩ := q_pos hpos
          exact ⟨Q, .inr ⟨hpos, hQ⟩, hQl, by rw [← hX, ← hz]; unfold zOf; rw [if_neg (by omega), hQ]⟩
      clear hX hz
      obtain ⟨Q, hQ, hQl, hX2⟩ := hQ
      rcases hQ with ⟨hsg, hQ⟩ | ⟨hsg, hQ⟩
      all_goals
        go_wp2_with (at_builtin; refine wpList_append_own_at _ rfl _ _ 27 rfl w.heap.size 22 i0 (.float .f64 0) 1 8 Try.underlying27 hi hz0 hz1 hz2 rfl (by decide) _ _ _ rfl (hownA.alloc _) ⟨wr.heap.size, 0, none⟩ 1 1 [.float .f64 X] rfl rfl ?c1 ?c2 ?c3 ?c4 ?c5 ?_)
        case c1 =>
          intro j u hj
          match j, hj with
          | 0, hj => simp at hj; subst hj; simp [Addr.add]
        case c2 => intro u hu; simp at hu; subst hu; rfl
        case c3 => unfold maxLen; omega
        case c4 => omega
        case c5 => simp; omega
        · intro va' w2 hownA' hgrow _ hblk
          rw [HFA.out] at hownA'
          have hownB2 := (hownB.alloc _).kept hgrow hap.symm.left
          have hap2 := hap.next hownB (by omega) hblk
          have hbel2 : Below w.heap.size w w2 := by
            refine (hbel.alloc hsz _).grown hgrow (by simp; omega) ?_
            intro k hk
            exact (hownA.lt k hk).1
          have hsz2 := hbel2.size
          clear hgrow hownA hownB hbel hap hblk hmin hmax hc1
          go_wp2_with (first
            | (go_at_call 8; refine (nan_val _).mono ?_; rintro e w3 ⟨rfl, rfl⟩)
            | (go_at_call_of 9 (Value.int .i64 1); refine (inf_val _).mono ?_; rintro e w3 ⟨rfl, rfl⟩)
            | (go_at_call 9; refine (ninf_val _).mono ?_; rintro e w3 ⟨rfl, rfl⟩)
            | (at_builtin; refine wpList_append_own_at _ rfl _ _ 27 rfl w.heap.size 22 i0 (.float .f64 0) 1 8 Try.underlying27 hi hz0 hz1 hz2 rfl (by decide) _ _ _ rfl (hownB2.alloc _) ⟨World.heap _ |>.size, 0, none⟩ 4 4 (fltCells [X, 9221120237041090561, 9218868437227405312, 18442240474082181120]) rfl rfl ?c1 ?c2 ?c3 ?c4 ?c5 ?_))
          case c1 =>
            intro j u hj
            match j, hj with
            | 0, hj => simp [fltCells] at hj; subst hj; simp [Addr.add]
            | 1, hj => simp [fltCells] at hj; subst hj; simp [Addr.add]
            | 2, hj => simp [fltCells] at hj; subst hj; simp [Addr.add]
            | 3, hj => simp [fltCells] at hj; subst hj; simp [Addr.add]
          case c2 => intro u hu; simp [fltCells] at hu; rcases hu with rfl | rfl | rfl | rfl <;> rfl
          case c3 => unfold maxLen; omega
          case c4 => omega
          case c5 => simp; omega
          · intro vb' w4 hownB' hgrow _ hblk
            rw [HFB.out, show 4 * k + 4 = 4 * (k + 1) by omega] at hownB'
            have hownA2 := (hownA'.alloc _).kept hgrow hap2.left
            have hap3 := (hap2.symm.next hownA' (by omega) hblk).symm
            have hbel3 : Below w.heap.size w w4 := by
              refine (hbel2.alloc hsz2 _).grown hgrow (by simp; omega) ?_
              intro k hk
              exact (hownB2.lt k hk).1
            clear hgrow hownB2 hbel2 hownA' hap2 hblk
            go_wp2
            go_roundw
            case rel => exact ⟨k + 1, L', H', by omega, by omega, by go_num, rfl, rfl, HL'.out.symm, HH'.out.symm, hownA2, hownB', hap3, hbel3⟩
            case measure => simp [intOf]; omega
    · have hzl : (zsOf ns k).length = k := zsOf_len ns k (by rw [HL.out]; exact hkn)
      have hzs := zsOf_le ns k
      have h1 := H1.out
      simp [Lit.wf] at h1
      clear HI HW H1 HL
      obtain ⟨ea, aA, capA, gA, rfl, fA, -⟩ := own_flts hownA
      obtain ⟨eb, aB, capB, gB, rfl, fB, -⟩ := own_flts hownB
      clear hownA hownB hap
      by_cases hk0 : k = 0
      · obtain rfl : n = 0 := by omega
        subst hk0
        have hnil : zsOf ns 0 = [] := by unfold zsOf; simp
        rw [hnil] at fA fB ea eb ⊢
        have C1 : Hid _ := fun (_ : Unit) => mean_val aA gA 0 capA 0 0 (fis []) wr rfl (by unfold maxLen; omega) fA (fis_lt _) mean_nil
        have e0 := eq_zero0
        clear fA fB hzl hzs ea eb hL hH hnil
        rcases Nat.lt_trichotomy (rg a1) infR with hf | hf | hf
        · have hop := hop_any .sub a1 a1 0 (sub_fin hf)
          have hn : (FloatKind.f64.format.order a1 a1 != some .eq) = false := nan_of (Nat.le_of_lt hf)
          clear hf
          go_wp2_with (refine (C1.out ()).mono ?_; rintro e w5 ⟨rfl, rfl⟩)
          go_ret
          exact ⟨rfl, hbel⟩
        · have hn : (FloatKind.f64.format.order a1 a1 != some .eq) = false := nan_of (by omega)
          have hop := run_sub_none (sub_inf hf)
          have hne := nanAt_neq a1
          have C2 : Hid _ := fun g W hc => mean_one g a1 W h1 (by omega) hc
          have H1 : Hid _ := h1
          clear hf h1
          generalize nanAt a1 = NA at *
          go_wp2_with fail
          refine (C1.out ()).mono ?_
          rintro e w5 ⟨rfl, rfl⟩
          go_wp2_with (refine (C2.out _ _ (by simp)).mono ?_; rintro e w5 ⟨rfl, rfl⟩)
          go_ret
          exact ⟨rfl, (below_drewN hbel 1).alloc (by simp; omega) _⟩
        · have hn : (FloatKind.f64.format.order a1 a1 != some .eq) = true := by
            show isN a1 = true
            rw [isN_eq]; exact decide_eq_true hf
          have C2 : Hid _ := fun g W hc => mean_one g a1 W h1 (by omega) hc
          clear hf h1
          go_wp2_with fail
          refine (C1.out ()).mono ?_
          rintro e w5 ⟨rfl, rfl⟩
          go_wp2_with (refine (C2.out _ _ (by simp)).mono ?_; rintro e w5 ⟨rfl, rfl⟩)
          go_ret
          exact ⟨rfl, hbel.alloc hsz _⟩
      · have hm := mean_between (zsOf ns k) hzs (by omega) (by omega)
        obtain ⟨q, hq⟩ : ∃ q, meanB (fis (zsOf ns k)) = q := ⟨_, rfl⟩
        rw [hq] at hm
        obtain ⟨m1, m2, m3⟩ := hm
        rw [← hL] at m2
        rw [← hH] at m3
        have hge := fo_ge m1 (by rw [hL]; exact fi_nan _) m2
        have hle := fo_le m1 (by rw [hH]; exact fi_nan _) m3
        have hself := neq_false m1
        have hq2 : meanB (bigs (zsOf ns k)) = q := by rw [meanB_bigs, hq]
        have lA : (fis (zsOf ns k)).length = k := by omega
        have lB : (bigs (zsOf ns k)).length = 4 * k := by omega
        rw [lA, lB]
        obtain ⟨K4, hK4⟩ : ∃ x, 4 * k = x := ⟨_, rfl⟩
        rw [hK4] at lB ⊢
        have C1 : Hid _ := fun (_ : Unit) => mean_val aA gA 0 capA k q _ wr lA (by unfold maxLen; omega) fA (fis_lt _) hq
        have C2 : Hid _ := fun (W : World) (h : Flts W aB gB 0 (bigs (zsOf ns k))) => mean_val aB gB 0 capB K4 q _ W lB (by unfold maxLen; omega) h (bigs_lt _) hq2
        have HFB : Hid _ := fB
        clear fA fB hzl hzs ea eb hL hH m1 m2 m3 hq hq2 lA lB h1 hK4
        have hex : n ≤ k ∨ k < n ∧ 50 ≤ k := by omega
        clear hlt
        rcases hex with hex | ⟨hex, hex2⟩
        all_goals
          go_wp2_with fail
          refine (C1.out ()).mono ?_
          rintro e w5 ⟨rfl, rfl⟩
          clear C1
          go_wp2_with fail
          refine (C2.out _ HFB.out).mono ?_
          rintro e w5 ⟨rfl, rfl⟩
          clear C2 HFB
          go_wp2
          go_ret
          exact ⟨rfl, hbel⟩

set_option maxRecDepth 100000 in
theorem lifted (os : Os) (started : os.Started) (H : Type) (enc : TypeId × Value → H) :
    ReturnsInHanded {} Try.checked os 4 .any (Rows.realMeansSpec.pre6 enc Try.prog Try.f4 Rows.realMeansRow.domain false) (Rows.realMeansSpec.post enc Try.prog Try.f4 false true false false) := by
  refine returnsInHanded_of_change (C := Try.checked) own started (by kernel_rfl) Try.func4
    (ChangeSpec.witness6 (enc := enc) (C := Try.checked) false ⟨#[], #[.slice none 0 0, .float .f64 0], []⟩ 8 (by kernel_rfl) (by kernel_rfl) (by kernel_rfl) (by kernel_rfl)) ?_
  intro W base args ds gs before hval0 hW hcnd _
  have hval : ∀ (j : Nat) t v, Try.f4.params[j]? = some t → args[j]? = some v → Value.okWide Try.prog W .any base t v := hval0
  have hW' := hW
  obtain ⟨p, q, hA0, hV, rfl, hfz, hnd⟩ := hW
  have hA : DataW.TrodAll enc Try.prog W 0 (fun _ => true) true Try.f4.params.toList args.toList ds p := hA0
  rw [Try.params4] at hA hval
  obtain ⟨v0, vs0, d0, ds0, p0, q0, hargs, rfl, rfl, h0, r0⟩ := trodAll_cons hA
  obtain ⟨v1, vs1, d1, ds1, p1, q1, rfl, rfl, rfl, h1, r1⟩ := trodAll_cons r0
  obtain ⟨rfl, rfl, rfl⟩ := trodAll_nil r1
  obtain rfl : args = #[v0, v1] := by cases args; simp_all
  obtain ⟨rfl, rfl⟩ := trodVars_none hV
  obtain ⟨a0, len0, cap0, rfl⟩ := okWide_slice Try.underlying26 (hval 0 26 v0 rfl rfl)
  have k0 := h0
  have lt0 : ∀ x ∈ p0, x.block < W.heap.size := by obtain ⟨m, hm⟩ := k0; exact DataW.trod_lt m _ _ _ hm
  obtain ⟨b0, off0, ss0, rfl, w0⟩ := open_nums Try.underlying26 Try.underlying3 (by kernel_rfl) h0
  obtain ⟨a1, rfl, rfl, rfl, w1⟩ := open_float Try.underlying22 (hval 1 22 v1 rfl rfl) h1
  clear hA0 hval0
  refine (walk a0 b0 off0 cap0 ss0 a1 W w0 w1).mono fun e W' ⟨he, bel⟩ => ?_
  subst he
  exact ⟨_, rfl, _, _, _, [], _, [], hW', trodAll_mk1 (shut_bool Try.underlying4 _), (trodAll_cons_mk (Below.trod laidOut (by kernel_rfl) (of_decide_eq_true (by kernel_rfl)) k0 bel lt0) (trodAll_cons_mk (shut_float Try.underlying22 w1) trodAll_mk0)), rfl, bel.frame _, fun h => by cases h⟩

theorem over : Rows.realMeansRow.holds Try.pinned (OpenSpec.ofChange Rows.realMeansSpec) :=
  OpenClaim.holds_of_wide 4 Try.f4 rfl rfl rfl rfl rfl rfl rfl ⟨rfl, rfl, rfl, rfl, rfl⟩ rfl rfl rfl rfl rfl (by kernel_rfl) Try.func4 (by kernel_rfl)
    (of_decide_eq_true (by kernel_rfl)) (by unfold Func.isWrapper; first | (rw [if_pos (by decide +kernel)]; kernel_rfl) | (rw [if_neg (by decide +kernel)]; exact ⟨rfl, rfl⟩))
    (fun os started H enc _ => lifted os started H enc)
end Go.Proofs.Ytjnpipjikkkkcab.realMeans

namespace Go.Proofs.Ytjnpipjikkkkcab
/-- The statement. -/
theorem realMeans_holds : Rows.RealMeansSaid := realMeans.over
#print axioms realMeans_holds
end Go.Proofs.Ytjnpipjikkkkcab
