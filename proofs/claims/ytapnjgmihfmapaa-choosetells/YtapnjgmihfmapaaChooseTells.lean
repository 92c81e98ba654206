/- ChooseTells: for all logs and numbers: the statement's function returns true; nothing that was there is changed. No condition. -/
import Derived.Test.YtapnjgmihfmapaaChsS
import Derived.Test.YtapnjgmihfmapaaChsR2
import Derived.Test.YtapnjgmihfmapaaChsR3
import Derived.Test.YtapnjgmihfmapaaChsOpen
import Derived.Test.YtapnjgmihfmapaaOpenAll
namespace Go.Proofs.Ytapnjgmihfmapaa.chooseTells
open Go.ChangeShapes Go.WideShapes Go.ChangeAt Go.RowKit Go.Proofs.Ytapnjgmihfmapaa Go.Proofs.Ytapnjgmihfmapaa.Lgg Go.Proofs.Ytapnjgmihfmapaa.Chs
open Go.ChangeMaps (open_string shut_string)
set_option linter.unusedVariables false

theorem own : ownKnob Try.prog.godebug = none := by kernel_rfl

set_option maxRecDepth 100000 in
set_option maxHeartbeats 8000000 in
theorem walk_b (a0 : Option Addr) (c0 n0 : Nat) (us : List Ls) (need p : Int) (w : World) (h0 : us.length = n0) (hL0 : LsAt (fun b => b < w.heap.size) (fun b => b < w.heap.size) w a0 us) (hc0 : n0 ≤ c0) (hneed : In64 need) (hp : In64 p) :
    Calls Try.prog 3 #[.slice a0 n0 c0, .int .i64 need, .int .i64 p] w fun e w' => e = .returned (.bool true) ∧ Below w.heap.size w w' := by
  have hlid0 := hL0.row.lid
  rw [h0] at hlid0
  unfold maxLen at hlid0
  obtain ⟨M, hM⟩ : ∃ M, min n0 20 = M := ⟨_, rfl⟩
  have hmin : min (n0 : Int) 20 = (M : Int) := by omega
  have hMc : M ≤ c0 := by omega
  have hM20 : M ≤ 20 := by omega
  have hxl : (us.take M).length = M := by rw [List.length_take]; omega
  have hL := hL0.take M
  generalize us.take M = xs at hL hxl
  clear hL0 h0 hM
  obtain ⟨N, hN⟩ : ∃ N, (max need 1).toNat = N := ⟨_, rfl⟩
  obtain ⟨es, hes⟩ : ∃ es, comT xs N = es := ⟨_, rfl⟩
  obtain ⟨m, hm⟩ : ∃ m, es.length = m := ⟨_, rfl⟩
  obtain ⟨B, hB⟩ : ∃ B, bestI xs M = B := ⟨_, rfl⟩
  obtain ⟨q, hq⟩ : ∃ q, mostT p = q := ⟨_, rfl⟩
  have KC : Hid (∀ W, Below w.heap.size w W → Calls Try.prog 9 #[.slice a0 M c0, .int .i64 need] W fun e w' => EnsR W.heap.size es m e w' ∧ Below W.heap.size W w') := fun W hb => committed_val (hL.below hb) M c0 hxl (by omega) need hneed N hN es hes m hm
  have KR : Hid (∀ W, Below w.heap.size w W → Calls Try.prog 8 #[.slice a0 M c0, .int .i64 need] W fun e w' => EnsR W.heap.size es m e w' ∧ Below W.heap.size W w') := fun W hb => refCommitted_val (hL.below hb) M c0 hxl (by omega) need hneed N hN es hes m hm
  have KB : Hid (∀ W, Below w.heap.size w W → Calls Try.prog 13 #[.slice a0 M c0] W fun e w' => e = .returned (.int .i64 B) ∧ Below W.heap.size W w') := fun W hb => best_val (hL.below hb) M c0 hxl (by omega) B hB
  have KRB : Hid (∀ W, Below w.heap.size w W → Calls Try.prog 14 #[.slice a0 M c0] W fun e w' => e = .returned (.int .i64 B) ∧ Below W.heap.size W w') := fun W hb => refBest_val (hL.below hb) M c0 hxl (by omega) B hB
  have KM : Hid (∀ W, Calls Try.prog 15 #[.int .i64 p] W fun e w' => e = .returned (.int .i64 q) ∧ w' = W) := fun W => most_val p hp q hq W
  have KRM : Hid (∀ W, Calls Try.prog 16 #[.int .i64 p] W fun e w' => e = .returned (.int .i64 q) ∧ w' = W) := fun W => refMost_val p hp q hq W
  have KE : Hid (∀ W O O2 a a' c c', Lie enC O W a es → Lie enC O2 W a' es → Calls Try.prog 10 #[.slice a m c, .slice a' m c'] W fun e w' => e = .returned (.bool true) ∧ Below W.heap.size W w') := fun W O O2 a a' c c' h1 h2 => entries_val h1 h2 m m c c' hm hm true ⟨fun _ => rfl, fun _ => rfl⟩
  have HAG : Hid (1 < M → ∃ v : Nat, ∃ (sa : Option Addr) (sn sc : Nat) (ta : Option Addr) (tn tc : Nat), ∀ W, Below w.heap.size w W → (∃ b off, a0 = some ⟨b, off, none⟩ ∧ W.cell? ⟨b, off + 1, none⟩ = some (.slice sa sn sc) ∧ W.cell? ⟨b, off + 2 + 1, none⟩ = some (.slice ta tn tc)) ∧
      (Calls Try.prog 11 #[.slice sa sn sc, .slice ta tn tc] W fun e w' => e = .returned (.int .i64 v) ∧ Below W.heap.size W w') ∧
      (Calls Try.prog 12 #[.slice sa sn sc, .slice ta tn tc] W fun e w' => e = .returned (.int .i64 v) ∧ Below W.heap.size W w')) := fun h1 => by
    have i0 : 0 < xs.length := by omega
    have i1 : 1 < xs.length := by omega
    refine ⟨agr xs[0].es xs[1].es, xs[0].a, xs[0].es.length, xs[0].c, xs[1].a, xs[1].es.length, xs[1].c, fun W hb => ⟨?_, ?_, ?_⟩⟩
    · obtain ⟨b, off, ha, hat⟩ := Lie.all wideL (hL.below hb).row i0
      exact ⟨b, off, ha, hat 0 i0 1 _ rfl, hat 1 i1 1 _ rfl⟩
    · exact agree_val ((hL.below hb).each _ (List.getElem_mem i0)) ((hL.below hb).each _ (List.getElem_mem i1)) _ _ _ _ rfl rfl _ rfl
    · exact refAgree_val ((hL.below hb).each _ (List.getElem_mem i0)) ((hL.below hb).each _ (List.getElem_mem i1)) _ _ _ _ rfl rfl _ rfl
  have HM : Hid (es.length = m) := hm
  have hmb : m ≤ 100000000000000 := by
    have := com_small hL (N := N) (by omega)
    rw [hes, hm] at this
    omega
  clear hN hes hB hq hL hxl hm
  go_enter Try.func3, Try.ntmps3
  go_wp2_with (first
    | (go_at_call 7; refine (examples_val _).mono ?_; rintro e w1 ⟨rfl, c1⟩; have B1 : Hid (Below w.heap.size w w1) := c1; clear c1)
    | (go_at_call 8; refine (KR.out _ B1.out).mono ?_; rintro e w2 ⟨⟨wa, wc, wg, rfl, hC2⟩, c2⟩; have B2 : Hid (Below w.heap.size w w2) := bel_tr B1.out c2; have C2 : Hid (Cel (fun k => w1.heap.size ≤ k) w2 2 (.slice wa m wc) m (rowC enC es) wg) := hC2; clear c2 hC2))
  go_loopw [9, 10, 11, 12] (fun v9 _ _ _ wr => ∃ t : Nat, t ≤ 2 ∧ v9 = .int .i64 t ∧ Below w2.heap.size w2 wr) (fun v9 _ _ _ _ => 2 - (intOf v9).toNat)
  case atStart => exact ⟨0, by omega, rfl, Below.refl _ _⟩
  case round =>
    obtain ⟨t, ht, rfl, hbl⟩ := hrel
    have B3 : Hid (Below w2.heap.size w2 wr) := hbl
    clear hbl
    by_cases ht2 : t < 2
    · go_wp2_with (first
        | (go_at_call 9; refine (KC.out _ (bel_tr B2.out B3.out)).mono ?_; rintro e w4 ⟨⟨ga, gc, gg, rfl, hC4⟩, c4⟩; have B4 : Hid (Below w2.heap.size w2 w4) := bel_tr B3.out c4; have C4 : Hid (Cel (fun k => wr.heap.size ≤ k) w4 2 (.slice ga m gc) m (rowC enC es) gg) := hC4; clear c4 hC4)
        | (go_at_call 10; refine (KE.out w4 _ _ ga wa gc wc (by have := C4.out; rw [← HM.out] at this; exact Lie.of_cel wideN this) (by have := C2.out.below B4.out; rw [← HM.out] at this; exact Lie.of_cel wideN this)).mono ?_; rintro e w5 ⟨rfl, c5⟩; have B5 : Hid (Below w2.heap.size w2 w5) := bel_tr B4.out c5; have C5 : Hid (Cel (fun k => wr.heap.size ≤ k) w5 2 (.slice ga m gc) m (rowC enC es) gg) := C4.out.below c5; clear c5))
      have HWG : Hid (w2.heap.size ≤ wr.heap.size) := B3.out.size
      clear C4 B4 B3
      go_wp2
      go_loopw [12] (fun v12 w6 => ∃ (i : Nat) (es' : List En), i ≤ m ∧ v12 = .int .i64 i ∧ Hid (es'.length = m) ∧ Hid (Cel (fun k => w2.heap.size ≤ k) w6 2 (.slice ga m gc) m (rowC enC es') gg) ∧ Hid (Below w2.heap.size w2 w6)) (fun v12 _ => m - (intOf v12).toNat)
      case atStart => exact ⟨0, es, by omega, rfl, HM.out, C5.out.stay (Nat.le_refl _) (fun _ _ => rfl) (fun k hk => Nat.le_trans HWG.out hk), B5.out⟩
      case round =>
        obtain ⟨i, es', hi, rfl, HL', HC', HB'⟩ := hrel
        by_cases hlt : i < m
        · have hie : i < es'.length := by rw [HL'.out]; exact hlt
          obtain ⟨gb, rfl, rfl⟩ := HC'.out.at2 (by omega)
          have hcap := HC'.out.cap2.1
          have hlv := (HC'.out.live (i * 2 + 1) (by omega)).2
          have hce := HC'.out.cell (i * 2 + 1) (by rw [rowC_len wideN, HL'.out]; omega)
          have HS := set_data HC'.out HL'.out i hie ⟨#[63]⟩
          have HS' : Hid _ := HS
          have HGB : Hid (w2.heap.size ≤ gb) := HC'.out.lt.2
          generalize (rowC enC es')[i * 2 + 1]'(by rw [rowC_len wideN, HL'.out]; omega) = vv at hce
          clear HS hcap C5 B5
          go_wp2
          go_roundw
          case rel => exact ⟨i + 1, _, by omega, by go_num, by show _ = _; rw [List.length_set]; exact HL'.out, HS'.out, Below.setCell HB'.out HGB.out _⟩
          case measure => simp [intOf]; omega
        · obtain rfl : i = m := by omega
          clear hlt
          go_wp2
          go_roundw
          case rel => exact ⟨t + 1, by omega, by go_num, HB'.out⟩
          case measure => simp [intOf]; omega
    · obtain rfl : t = 2 := by omega
      have BW : Hid (Below w.heap.size w wr) := bel_tr B2.out B3.out
      by_cases hM1 : 1 < M
      · obtain ⟨v, sa, sn, sc, ta, tn, tc, hag⟩ := HAG.out hM1
        have KG : Hid (∀ W, Below w.heap.size w W → (Calls Try.prog 11 #[.slice sa sn sc, .slice ta tn tc] W fun e w' => e = .returned (.int .i64 v) ∧ Below W.heap.size W w')) := fun W hb => (hag W hb).2.1
        have KRG : Hid (∀ W, Below w.heap.size w W → (Calls Try.prog 12 #[.slice sa sn sc, .slice ta tn tc] W fun e w' => e = .returned (.int .i64 v) ∧ Below W.heap.size W w')) := fun W hb => (hag W hb).2.2
        obtain ⟨⟨b, off, rfl, q0, q1⟩, _⟩ := hag wr BW.out
        have s0 := fun dd os => cell_regrown q0 dd os
        have s1 := fun dd os => cell_regrown q1 dd os
        clear hag HAG
        go_wp2
        refine wp_region_quiet_below (by kernel_rfl) (by kernel_rfl) ?_
        repeat (first | go_big_quiet_step (first | (go_at_call 11; exact Calls.regrown_of (KG.out _ (bel_tr BW.out (below_regrown _ _ _)))) | (go_at_call 12; exact Calls.regrown_of (KRG.out _ (bel_tr BW.out (below_regrown _ _ _))))) | quiet_step (first | (go_at_call 11; exact Calls.regrown_of (KG.out _ (bel_tr BW.out (below_regrown _ _ _)))) | (go_at_call 12; exact Calls.regrown_of (KRG.out _ (bel_tr BW.out (below_regrown _ _ _))))))
        refine wpQuiet_nil ?_
        intro _ hw'
        obtain ⟨⟨dq, osq⟩, hw''⟩ := hw'
        subst hw''
        have BX : Hid (Below w.heap.size w (Sort.grow (redrawn wr dq) osq)) := bel_tr BW.out (below_regrown _ _ _)
        generalize Sort.grow (redrawn wr dq) osq = wx at *
        clear s0 s1 q0 q1
        go_wp2_with (first
          | (go_at_call 13; refine (KB.out _ BX.out).mono ?_; rintro e w6 ⟨rfl, c6⟩; have B6 : Hid (Below w.heap.size w w6) := bel_tr BX.out c6; clear c6)
          | (go_at_call 14; refine (KRB.out _ B6.out).mono ?_; rintro e w7 ⟨rfl, c7⟩; have B7 : Hid (Below w.heap.size w w7) := bel_tr B6.out c7; clear c7)
          | (go_at_call 15; refine (KM.out _).mono ?_; rintro e w8 ⟨rfl, rfl⟩)
          | (go_at_call 16; refine (KRM.out _).mono ?_; rintro e w9 ⟨rfl, rfl⟩))
        go_ret
        exact ⟨rfl, B7.out⟩
      · have hMb : decide ((M : Int) > 1) = false := decide_eq_false (by omega)
        clear HAG
        go_wp2_with (first
          | (go_at_call 13; refine (KB.out _ BW.out).mono ?_; rintro e w6 ⟨rfl, c6⟩; have B6 : Hid (Below w.heap.size w w6) := bel_tr BW.out c6; clear c6)
          | (go_at_call 14; refine (KRB.out _ B6.out).mono ?_; rintro e w7 ⟨rfl, c7⟩; have B7 : Hid (Below w.heap.size w w7) := bel_tr B6.out c7; clear c7)
          | (go_at_call 15; refine (KM.out _).mono ?_; rintro e w8 ⟨rfl, rfl⟩)
          | (go_at_call 16; refine (KRM.out _).mono ?_; rintro e w9 ⟨rfl, rfl⟩))
        go_ret
        exact ⟨rfl, B7.out⟩

theorem walk (a0 : Option Addr) (c0 : Nat) (us : List Ls) (need p : Int) (w : World) (w0 : LsIn w a0 us ∧ us.length ≤ c0) (w1 : (Lit.int .i64 need).wf = true) (w2 : (Lit.int .i64 p).wf = true) (z0 : ∀ x ∈ us, x.es.length * 24 ≤ reachBytes) :
    Calls Try.prog 3 #[.slice a0 us.length c0, .int .i64 need, .int .i64 p] w fun e w' => e = .returned (.bool true) ∧ Below w.heap.size w w' :=
  walk_b a0 c0 _ us need p w rfl (w0.1.into z0) w0.2 (bounds_i64 w1) (bounds_i64 w2)

set_option maxRecDepth 100000 in
theorem lifted (os : Os) (started : os.Started) (H : Type) (enc : TypeId × Value → H) :
    ReturnsInHanded {} Try.checked os 3 .any (Rows.chooseTellsSpec.pre6 enc Try.prog Try.f3 Rows.chooseTellsRow.domain false) (Rows.chooseTellsSpec.post enc Try.prog Try.f3 false true false false) := by
  refine returnsInHanded_of_change_sized (C := Try.checked) own started (by kernel_rfl) Try.func3
    (ChangeSpec.witness6 (enc := enc) (C := Try.checked) false ⟨#[], #[.slice none 0 0, .int .i64 0, .int .i64 0], []⟩ 8 (by kernel_rfl) (by kernel_rfl) (by kernel_rfl) (by kernel_rfl)) ?_
  intro W base args ds gs before hval0 hW hcnd hsz0 _
  have hval : ∀ (j : Nat) t v, Try.f3.params[j]? = some t → args[j]? = some v → Value.okWide Try.prog W .any base t v := hval0
  have hW' := hW
  obtain ⟨p, q, hA0, hV, rfl, hfz, hnd⟩ := hW
  have hA : DataW.TrodAll enc Try.prog W 0 (fun _ => true) true Try.f3.params.toList args.toList ds p := hA0
  have hsz : (DataW.weightsEach Try.prog (Try.f3.params.toList ++ Rows.chooseTellsSpec.plain.varTypes Try.prog) (ds ++ gs)).all (· ≤ reachBytes) = true := hsz0
  rw [Try.params3] at hA hval hsz
  obtain ⟨v0, vs0, d0, ds0, p0, q0, hargs, rfl, rfl, h0, r0⟩ := trodAll_cons hA
  obtain ⟨v1, vs1, d1, ds1, p1, q1, rfl, rfl, rfl, h1, r1⟩ := trodAll_cons r0
  obtain ⟨v2, vs2, d2, ds2, p2, q2, rfl, rfl, rfl, h2, r2⟩ := trodAll_cons r1
  obtain ⟨rfl, rfl, rfl⟩ := trodAll_nil r2
  obtain rfl : args = #[v0, v1, v2] := by cases args; simp_all
  obtain ⟨rfl, rfl⟩ := trodVars_none hV
  obtain ⟨a0, len0, cap0, rfl⟩ := okWide_slice Try.underlying22 (hval 0 22 v0 rfl rfl)
  have k0 := h0
  have lt0 : ∀ x ∈ p0, x.block < W.heap.size := by obtain ⟨m, hm⟩ := k0; exact DataW.trod_lt m _ _ _ hm
  obtain ⟨ss0, y0, w0, n0⟩ := Chs.open_logs h0
  subst y0
  obtain ⟨a1, rfl, rfl, rfl, w1⟩ := open_int Try.underlying3 (hval 1 3 v1 rfl rfl) h1
  obtain ⟨a2, rfl, rfl, rfl, w2⟩ := open_int Try.underlying3 (hval 2 3 v2 rfl rfl) h2
  have z0 := n0 (fun x hx => by simpa using List.all_eq_true.1 hsz x (DataW.weights_mem_each (j := 0) (t := 22) rfl rfl x hx))
  clear hA0 hval0
  refine (walk a0 cap0 ss0 a1 a2 W w0 w1 w2 z0).mono fun e W' ⟨he, bel⟩ => ?_
  subst he
  exact ⟨_, rfl, _, _, _, [], _, [], hW', trodAll_mk1 (shut_bool Try.underlying4 _), (trodAll_cons_mk (Below.trod laidOut (by kernel_rfl) (of_decide_eq_true (by kernel_rfl)) k0 bel lt0) (trodAll_cons_mk (shut_int Try.underlying3 w1) (trodAll_cons_mk (shut_int Try.underlying3 w2) trodAll_mk0))), rfl, bel.frame _, fun h => by cases h⟩

theorem over : Rows.chooseTellsRow.holds Try.pinned (OpenSpec.ofChange Rows.chooseTellsSpec) :=
  OpenClaim.holds_of_wide 3 Try.f3 rfl rfl rfl rfl rfl rfl rfl ⟨rfl, rfl, rfl, rfl, rfl⟩ rfl rfl rfl rfl rfl (by kernel_rfl) Try.func3 (by kernel_rfl)
    (of_decide_eq_true (by kernel_rfl)) (by unfold Func.isWrapper; first | (rw [if_pos (by decide +kernel)]; kernel_rfl) | (rw [if_neg (by decide +kernel)]; exact ⟨rfl, rfl⟩))
    (fun os started H enc _ => lifted os started H enc)
end Go.Proofs.Ytapnjgmihfmapaa.chooseTells

namespace Go.Proofs.Ytapnjgmihfmapaa
/-- The statement. -/
theorem chooseTells_holds : Rows.ChooseTellsSaid := chooseTells.over
#print axioms chooseTells_holds
end Go.Proofs.Ytapnjgmihfmapaa
