/- ChooseMore: for all logs and numbers: the statement's function returns true; nothing that was there is changed. No condition. -/
import Derived.Test.YtapnjgmihfmapaaChsP
import Derived.Test.YtapnjgmihfmapaaChsOpen
import Derived.Test.YtapnjgmihfmapaaOpenAll
namespace Go.Proofs.Ytapnjgmihfmapaa.chooseMore
open Go.ChangeShapes Go.WideShapes Go.ChangeAt Go.RowKit Go.Proofs.Ytapnjgmihfmapaa Go.Proofs.Ytapnjgmihfmapaa.Lgg Go.Proofs.Ytapnjgmihfmapaa.Chs
open Go.ChangeMaps (open_string shut_string)
set_option linter.unusedVariables false

theorem own : ownKnob Try.prog.godebug = none := by kernel_rfl

theorem lgRow : ∃ i, Try.prog.info? 31 = some i ∧ i.zero = some (.agg #[.int .i64 0, .slice none 0 0]) ∧ i.size = 2 ∧ i.bytes = 32 :=
  info_parts3 (show (Try.prog.info? 31).map (fun i => (i.zero, i.size, i.bytes)) = some (some (.agg #[.int .i64 0, .slice none 0 0]), 2, 32) by kernel_rfl)

set_option maxRecDepth 100000 in
set_option maxHeartbeats 8000000 in
theorem walk_b (a0 : Option Addr) (c0 n0 : Nat) (us : List Ls) (need : Int) (y : Ls) (p : Int) (w : World) (h0 : us.length = n0) (hL0 : LsAt (fun b => b < w.heap.size) (fun b => b < w.heap.size) w a0 us) (hc0 : n0 ≤ c0) (hneed : In64 need) (hy : LgIn2 w y) (hyz : y.es.length * 24 ≤ 140737488355328) (hp : In64 p) (kn : Nat) (hcase : (p < 0 ∧ -(p + 1) = (kn : Int)) ∨ p = (kn : Int)) :
    Calls Try.prog 5 #[.slice a0 n0 c0, .int .i64 need, .agg #[.int .i64 y.ep, .slice y.a y.es.length y.c], .int .i64 p] w fun e w' => e = .returned (.bool true) ∧ Below w.heap.size w w' := by
  have hlid0 := hL0.row.lid
  rw [h0] at hlid0
  unfold maxLen at hlid0
  obtain ⟨M, hM⟩ : ∃ M, min n0 9 = M := ⟨_, rfl⟩
  have hmin : min (n0 : Int) 9 = (M : Int) := by omega
  have hMc : M ≤ c0 := by omega
  have hM9 : M ≤ 9 := by omega
  have hxl : (us.take M).length = M := by rw [List.length_take]; omega
  have hL := hL0.take M
  generalize us.take M = xs at hL hxl
  clear hL0 h0 hM
  -- the majority of 1 to 1000 nodes
  obtain ⟨r, hr⟩ : ∃ r, kn % 1000 = r := ⟨_, rfl⟩
  have hr0 : r < 1000 := by omega
  have hr1 : (kn : Int).tmod 1000 = (r : Int) := by rw [Int.tmod_eq_emod_of_nonneg (by omega), ← hr]; rfl
  have hr2 : (kn : Int) % 1000 = (r : Int) := by rw [← hr]; rfl
  obtain ⟨q, hq⟩ : ∃ q, (r + 1) / 2 + 1 = q := ⟨_, rfl⟩
  have hqm : mostT ((1 : Int) + (r : Int)) = (q : Int) := by
    unfold mostT
    rw [if_neg (by omega)]
    omega
  have KM : Hid (∀ W, Calls Try.prog 15 #[.int .i64 ((1 : Int) + (r : Int))] W fun e w' => e = .returned (.int .i64 q) ∧ w' = W) := fun W => most_val _ ⟨by omega, by omega⟩ q hqm W
  have hq1 : decide (2 * (q : Int) ≤ 1 + (r : Int)) = false := decide_eq_false (by omega)
  have hq2 : decide ((q : Int) > 1 + (r : Int)) = false := decide_eq_false (by omega)
  have hq3 : decide (2 * (q : Int) > 1 + (r : Int) + 2) = false := decide_eq_false (by omega)
  have hqb : q ≤ 1000 := by omega
  clear hq hqm hr
  obtain ⟨N, hN⟩ : ∃ N, (max need 1).toNat = N := ⟨_, rfl⟩
  have hN1 : 1 ≤ N := by omega
  obtain ⟨B, hB⟩ : ∃ B, bestI xs M = B := ⟨_, rfl⟩
  have KB : Hid (∀ W, Below w.heap.size w W → Calls Try.prog 13 #[.slice a0 M c0] W fun e w' => e = .returned (.int .i64 B) ∧ Below W.heap.size W w') := fun W hb => best_val (hL.below hb) M c0 hxl (by omega) B hB
  have HBI : Hid (bestI xs M = B) := hB
  have HXL : Hid (xs.length = M) := hxl
  have hlo := best_lt xs M
  rw [hB] at hlo
  have HLS : Hid (LsAt (fun b => b < w.heap.size) (fun b => b < w.heap.size) w a0 xs) := hL
  have HY : Hid (LgIn2 w y) := hy
  have HYZ : Hid (y.es.length * 24 ≤ 140737488355328) := hyz
  have HNN : Hid ((max need 1).toNat = N) := hN
  have HND : Hid (In64 need) := hneed
  unfold In64 at hneed hp
  obtain ⟨ye, ya, yc, yes⟩ := y
  simp only at HY HYZ ⊢
  obtain ⟨ny, hny⟩ : ∃ ny, yes.length = ny := ⟨_, rfl⟩
  have HNY : Hid (yes.length = ny) := hny
  rw [hny]
  clear hN hB hL hxl hy hyz hny
  by_cases hB0 : B < 0
  · clear hlo
    rcases hcase with ⟨hpn, hpk⟩ | rfl
    all_goals
      go_enter Try.func5, Try.ntmps5
      go_wp2_with (first
        | (go_at_call 7; refine (examples_val _).mono ?_; rintro e w1 ⟨rfl, c1⟩; have X1 := bel_cell c1 (cell_new w #[.int .i64 ye, .slice ya ny yc] 31 0); have X2 := bel_cell c1 (cell_new w #[.int .i64 ye, .slice ya ny yc] 31 1); have B1 : Hid (Below w.heap.size w w1) := bel_tr (bel_al _ _) c1; have F1 : Hid (∀ j, w1.frozen? ⟨w.heap.size, j, none⟩ = false) := fun j => (World.frozen?_of_block (a := ⟨w.heap.size, j, none⟩) (c1.block w.heap.size (by simp))).trans (World.frozen?_alloc_new w _ _ j); clear c1)
        | (go_at_call 15; refine (KM.out _).mono ?_; rintro e w8 ⟨rfl, rfl⟩)
        | (go_at_call 13; refine (KB.out _ B1.out).mono ?_; rintro e w2 ⟨rfl, c2⟩; have B2 : Hid (Below w.heap.size w w2) := bel_tr B1.out c2; clear c2 X1 X2))
      go_ret
      exact ⟨rfl, B2.out⟩
  obtain ⟨b, rfl⟩ : ∃ b : Nat, B = (b : Int) := ⟨B.toNat, by omega⟩
  have hbM : b < M := by omega
  have hbx : b < xs.length := by rw [HXL.out]; exact hbM
  have hBI : bestI xs xs.length = (b : Int) := by rw [HXL.out]; exact HBI.out
  have hb0 : decide ((b : Int) < 0) = false := decide_eq_false (by omega)
  obtain ⟨eb, heb⟩ : ∃ eb, xs[b].ep = eb := ⟨_, rfl⟩
  have hEB : In64 eb := by rw [← heb]; exact HLS.out.eps _ (List.getElem_mem hbx)
  have HEB : Hid (In64 eb) := hEB
  obtain ⟨F, hF⟩ : ∃ F, kN xs eb 0 = F := ⟨_, rfl⟩
  have hFM : F ≤ 9 := by have := kN_le xs eb 0; rw [HXL.out, hF] at this; omega
  obtain ⟨es1, hes1⟩ : ∃ es, comT xs N = es := ⟨_, rfl⟩
  obtain ⟨es2, hes2⟩ : ∃ es, comT (xs ++ [⟨eb, ya, yc, yes⟩]) N = es := ⟨_, rfl⟩
  obtain ⟨m1, hm1⟩ : ∃ m, es1.length = m := ⟨_, rfl⟩
  obtain ⟨m2, hm2⟩ : ∃ m, es2.length = m := ⟨_, rfl⟩
  have hlast : ¬ (F : Int) < need → m1 ≤ m2 := fun h => by
    rw [← hm1, ← hm2, ← hes1, ← hes2]
    have hNF : N ≤ F := by
      have h1 := kN_pos hbx
      rw [heb, hF] at h1
      have := HNN.out
      omega
    exact com_more hN1 hbx hBI heb.symm (by rw [heb, hF]; exact hNF)
  have KC : Hid (∀ W, Below w.heap.size w W → Calls Try.prog 9 #[.slice a0 M c0, .int .i64 need] W fun e w' => EnsR W.heap.size es1 m1 e w' ∧ Below W.heap.size W w') := fun W hb => committed_val (HLS.out.below hb) M c0 HXL.out (by omega) need HND.out N HNN.out es1 hes1 m1 hm1
  have KD : Hid (∀ W O a c, LsAt O (fun b => b < W.heap.size) W a (xs ++ [⟨eb, ya, yc, yes⟩]) → Calls Try.prog 9 #[.slice a (M + 1) c, .int .i64 need] W fun e w' => EnsR W.heap.size es2 m2 e w' ∧ Below W.heap.size W w') := fun W O a c h => committed_val h (M + 1) c (by rw [List.length_append, HXL.out]; rfl) (by omega) need HND.out N HNN.out es2 hes2 m2 hm2
  have HAT : Hid (∀ W, Below w.heap.size w W → ∃ lb lo, a0 = some ⟨lb, lo, none⟩ ∧ ∀ (i : Nat) (hi : i < xs.length), W.cell? ⟨lb, lo + i * 2, none⟩ = some (.int .i64 xs[i].ep)) := fun W hb => by
    obtain ⟨lb, lo, ha, hat⟩ := Lie.all wideL (HLS.out.below hb).row (by omega)
    exact ⟨lb, lo, ha, fun i hi => hat i hi 0 _ rfl⟩
  have HKF : Hid (kN xs eb 0 = F) := hF
  have HEE : Hid (xs[b].ep = eb) := heb
  clear hB0 hlo hBI HBI hF hes1 hes2 hm1 hm2 hEB heb
  rcases hcase with ⟨hpn, hpk⟩ | rfl
  all_goals
    go_enter Try.func5, Try.ntmps5
    go_wp2_with (first
      | (go_at_call 7; refine (examples_val _).mono ?_; rintro e w1 ⟨rfl, c1⟩; have X1 := bel_cell c1 (cell_new w #[.int .i64 ye, .slice ya ny yc] 31 0); have X2 := bel_cell c1 (cell_new w #[.int .i64 ye, .slice ya ny yc] 31 1); have B1 : Hid (Below w.heap.size w w1) := bel_tr (bel_al _ _) c1; have F1 : Hid (∀ j, w1.frozen? ⟨w.heap.size, j, none⟩ = false) := fun j => (World.frozen?_of_block (a := ⟨w.heap.size, j, none⟩) (c1.block w.heap.size (by simp))).trans (World.frozen?_alloc_new w _ _ j); clear c1)
      | (go_at_call 15; refine (KM.out _).mono ?_; rintro e w8 ⟨rfl, rfl⟩)
      | (go_at_call 13; refine (KB.out _ B1.out).mono ?_; rintro e w2 ⟨rfl, c2⟩; have Y1 := bel_cell c2 X1; have Y2 := bel_cell c2 X2; have B2 : Hid (Below w.heap.size w w2) := bel_tr B1.out c2; have F2 := (World.frozen?_of_block (a := ⟨w.heap.size, 0, none⟩) (c2.block w.heap.size (World.block_lt_of_cell? _ _ X1))).trans (F1.out 0); obtain ⟨lb, lo, rfl, hat⟩ := HAT.out _ B2.out; have Z1 := hat b hbx; rw [HEE.out] at Z1; clear c2 X1 X2 hat))
    have B3 : Hid (Below w.heap.size w (w2.setCell ⟨w.heap.size, 0, none⟩ (.int .i64 eb))) := Below.setCell B2.out (Nat.le_refl _) _
    have P1 : Hid ((w2.setCell ⟨w.heap.size, 0, none⟩ (.int .i64 eb)).cell? ⟨w.heap.size, 0, none⟩ = some (.int .i64 eb)) := World.cell?_setCell_same _ _ _ Y1
    have P2 : Hid ((w2.setCell ⟨w.heap.size, 0, none⟩ (.int .i64 eb)).cell? ⟨w.heap.size, 1, none⟩ = some (.slice ya ny yc)) := cell_set (by omega) Y2
    clear Y1 Y2 Z1 F2 B1 F1 B2
    generalize w2.setCell ⟨w.heap.size, 0, none⟩ (.int .i64 eb) = w3 at *
    go_loopw [11, 12] (fun v11 v12 wr => ∃ i : Nat, i ≤ M ∧ v12 = .int .i64 i ∧ v11 = .int .i64 (kN (xs.take i) eb 0) ∧ Below w3.heap.size w3 wr) (fun _ v12 _ => M - (intOf v12).toNat)
    case atStart => exact ⟨0, by omega, rfl, rfl, Below.refl _ _⟩
    case round =>
      obtain ⟨i, hi, rfl, rfl, hbl⟩ := hrel
      have B4 : Hid (Below w3.heap.size w3 wr) := hbl
      have Q1 := bel_cell hbl P1.out
      have Q2 : Hid (wr.cell? ⟨w.heap.size, 1, none⟩ = some (.slice ya ny yc)) := bel_cell hbl P2.out
      have BW : Hid (Below w.heap.size w wr) := B3.out.trans (hbl.mono B3.out.size)
      clear hbl
      by_cases hlt : i < M
      · have hix : i < xs.length := by rw [HXL.out]; exact hlt
        obtain ⟨lb2, lo2, hab, hat⟩ := HAT.out _ BW.out
        simp only [Option.some.injEq, Addr.mk.injEq, and_true] at hab
        obtain ⟨rfl, rfl⟩ := hab
        have e0 := hat i hix
        have HX : Hid _ := kN_succ hix eb 0
        have hle := kN_le (xs.take i) eb 0
        rw [List.length_take] at hle
        clear hat
        generalize xs[i] = x at *
        obtain ⟨ex, ax, cx, sx⟩ := x
        simp only at e0 HX
        generalize kN (xs.take i) eb 0 = K at *
        have hK : K ≤ 9 := by omega
        clear hle
        by_cases h1 : ex = eb
        · subst h1
          go_wp2
          go_quiet (fail)
          go_wp2
          go_roundw
          case rel => exact ⟨i + 1, by omega, by go_num, by rw [HX.out, if_pos (by simp)]; rfl, bel_tr B4.out (bel_dr _ _)⟩
          case measure => simp [intOf]; omega
        · have h1b : decide (ex = eb) = false := decide_eq_false h1
          have h1c : (ex == eb) = false := by simpa using h1
          go_wp2
          go_quiet (fail)
          go_wp2
          go_roundw
          case rel => exact ⟨i + 1, by omega, by go_num, by rw [HX.out, if_neg (fun h => h1 h.1)]; rfl, bel_tr B4.out (bel_dr _ _)⟩
          case measure => simp [intOf]; omega
      · obtain rfl : i = M := by omega
        have htk : xs.take i = xs := List.take_of_length_le (by rw [HXL.out]; omega)
        rw [htk, HKF.out]
        clear hlt htk B4 B3 P1 P2
        go_wp2_with (go_at_call 9; refine (KC.out _ BW.out).mono ?_; rintro e w5 ⟨⟨ea, ec, eg, rfl, hC5⟩, c5⟩; have B5 : Hid (Below w.heap.size w w5) := bel_tr BW.out c5; have R1 := bel_cell c5 Q1; have R2 := bel_cell c5 Q2.out; clear hC5 c5 Q1)
        have HY4 : Hid (∀ W : World, Below w5.heap.size w5 W → W.cell? ⟨w.heap.size, 0, none⟩ = some (.int .i64 eb) ∧ W.cell? ⟨w.heap.size, 1, none⟩ = some (.slice ya ny yc)) := fun W hb => ⟨bel_cell hb R1, bel_cell hb R2⟩
        have SX : Hid (∀ W : World, Below w5.heap.size w5 W → Src Try.prog 2 22 (.slice (some ⟨lb, lo, none⟩) i c0) i (rowC lsC xs) W) := fun W hb => by
          have := Lie.srcT Try.underlying22 wideL (HLS.out.row.below (B5.out.trans (hb.mono B5.out.size))) i (by rw [HXL.out]; exact Nat.le_refl _) c0
          rwa [List.take_of_length_le (by rw [HXL.out]; exact Nat.le_refl _)] at this
        obtain ⟨ti, hi1, hi2, hi3, hi4⟩ := lgRow
        have SY : Hid (∀ W V : World, Below (W.alloc (.cells #[.int .i64 eb, .slice ya ny yc] 31)).heap.size (W.alloc (.cells #[.int .i64 eb, .slice ya ny yc] 31)) V → Src Try.prog 2 22 (.slice (some ⟨W.heap.size, 0, none⟩) 1 1) 1 [.int .i64 eb, .slice ya ny yc] V) := fun W V hb => by
          refine Src.ofSlice _ Try.underlying22 ⟨W.heap.size, 0, none⟩ 1 1 _ (by rfl) (fun j u hu => ?_) (fun u hu => wideL.one (⟨eb, ya, yc, yes⟩ : Ls) u (by rw [← HNY.out] at hu; exact hu))
          rw [Addr.add_lit, Nat.zero_add]
          refine bel_cell hb ?_
          rw [World.cell?_alloc_new W _ _ j]
          simpa using hu
        have BD : Hid (Below w5.heap.size w5 w5.drew) := (Below.refl _ w5).drew
        clear R1 R2
        have HLY : Hid (∀ (W V : World) (a' : Option Addr) (c' : Nat) (g' : Option Nat) (O' : Nat → Prop), Below w5.heap.size w5 W → Cel O' W 2 (.slice a' (i + 1) c') (i + 1) (rowC lsC xs ++ [.int .i64 eb, .slice ya ny yc]) g' → LsAt O' (fun b => b < W.heap.size) W a' (xs ++ [⟨eb, ya, yc, yes⟩])) := fun W V a' c' g' O' hb hC => by
          have hbw : Below w.heap.size w W := B5.out.trans (hb.mono B5.out.size)
          have e1 : rowC lsC xs ++ [.int .i64 eb, .slice ya ny yc] = rowC lsC (xs ++ [⟨eb, ya, yc, yes⟩]) := by
            rw [rowC_app, rowC_one]
            show _ = _ ++ ([.int .i64 eb, .slice ya yes.length yc] : List Value)
            rw [HNY.out]
          have e2 : (xs ++ [⟨eb, ya, yc, yes⟩] : List Ls).length = i + 1 := by rw [List.length_append, HXL.out]; rfl
          rw [e1, ← e2] at hC
          refine ⟨Lie.of_cel wideL hC, fun x hx => ?_, fun x hx => ?_, fun x hx => ?_⟩
          · rcases List.mem_append.1 hx with hx | hx
            · exact ((HLS.out.each x hx).below hbw).mono (fun k hk _ => Nat.lt_of_lt_of_le hk hbw.size)
            · rw [List.mem_singleton.1 hx]
              exact (HY.out.each.below hbw).mono (fun k hk _ => Nat.lt_of_lt_of_le hk hbw.size)
          · rcases List.mem_append.1 hx with hx | hx
            · exact HLS.out.eps x hx
            · rw [List.mem_singleton.1 hx]; exact HEB.out
          · rcases List.mem_append.1 hx with hx | hx
            · exact HLS.out.room x hx
            · rw [List.mem_singleton.1 hx]
              exact ⟨HY.out.room, HYZ.out⟩
        go_region_held3 (fun W => W.cell? ⟨w.heap.size, 0, none⟩ = some (.int .i64 eb) ∧ W.cell? ⟨w.heap.size, 1, none⟩ = some (.slice ya ny yc))
          (first | exact HY4.out _ BD.out | exact HY4.out _ BA.out | exact HY4.out _ (bel_tr BD.out (bel_al _ _)) | exact HY4.out _ (bel_tr BA.out (bel_al _ _)) | exact HY4.out _ BE.out | exact HY4.out _ BG.out)
          (first
            | (refine step_append_cel rfl _ (.tmp 78) 22 22 rfl 31 ti _ 2 32 Try.underlying22 hi1 hi2 hi3 hi4 rfl (O := fun z => w5.heap.size ≤ z) (.slice none 0 0) 0 [] none (by simp [Act.eval]) (.nil rfl rfl rfl) (.slice (some ⟨lb, lo, none⟩) i c0) i (rowC lsC xs) (by simp [Act.eval]) (by first | exact SX.out _ BD.out | exact SX.out _ (bel_tr BD.out (bel_al _ _))) (by unfold maxLen; omega) (by omega) ?_; intro a6 c6 w6 g6 hC6 hS6 hg6; rw [Nat.zero_add, List.nil_append] at hC6; rw [Nat.zero_add]; have BS6 := hS6.below (Nat.le_refl _) (fun k hk => by cases hk); have BA : Hid (Below w5.heap.size w5 w6) := (by first | exact bel_tr BD.out BS6 | exact bel_tr (bel_tr BD.out (bel_al _ _)) BS6); have C6 : Hid (Cel (fun z => w5.heap.size ≤ z) w6 2 (.slice a6 i c6) i (rowC lsC xs) g6) := hC6.stay (Nat.le_refl _) (fun _ _ => rfl) (fun k hk => hk.elim id (fun e => Nat.le_trans (by first | exact BD.out.size | exact (bel_tr BD.out (bel_al _ _)).size) e.1)); clear hC6 hS6 hg6)
            | (refine step_append_cel rfl (.tmp 79) (.tmp 81) 22 22 rfl 31 ti _ 2 32 Try.underlying22 hi1 hi2 hi3 hi4 rfl (O := fun z => w5.heap.size ≤ z) (.slice a6 i c6) i (rowC lsC xs) g6 (by simp [Act.eval]) (C6.out.below (bel_al _ _)) (.slice (some ⟨w6.heap.size, 0, none⟩) 1 1) 1 [.int .i64 eb, .slice ya ny yc] (by simp [Act.eval]) (SY.out w6 _ (Below.refl _ _)) (by unfold maxLen; omega) (by omega) ?_; intro a7 c7 w7 g7 hC7 hS7 hg7; have BE : Hid (Below w5.heap.size w5 w7) := ((BA.out.trans ((bel_al w6 _).mono BA.out.size)).trans (hS7.below (Nat.le_trans BA.out.size (bel_al w6 _).size) (fun k hk => by have := C6.out; rw [hk] at this; exact this.lt.2))); have C7 : Hid _ := HLY.out w7 w7 a7 c7 g7 _ BE.out hC7; clear hC7 hS7 hg7)
            | (refine step_append_cel rfl (.tmp 79) (.tmp 81) 22 22 rfl 31 ti _ 2 32 Try.underlying22 hi1 hi2 hi3 hi4 rfl (O := fun z => w5.heap.size ≤ z) (.slice a6 i c6) i (rowC lsC xs) g6 (by simp [Act.eval]) C6.out (.slice (some ⟨w5.heap.size, 0, none⟩) 1 1) 1 [.int .i64 eb, .slice ya ny yc] (by simp [Act.eval]) (SY.out w5 w6 (bel_tr (Below.refl _ _).drew BS6)) (by unfold maxLen; omega) (by omega) ?_; intro a7 c7 w7 g7 hC7 hS7 hg7; have BE : Hid (Below w5.heap.size w5 w7) := (BA.out.trans (hS7.below BA.out.size (fun k hk => by have := C6.out; rw [hk] at this; exact this.lt.2))); have C7 : Hid _ := HLY.out w7 w7 a7 c7 g7 _ BE.out hC7; clear hC7 hS7 hg7)
            | (go_at_call 9; refine (KD.out w7 _ a7 c7 C7.out).mono ?_; rintro e w8 ⟨⟨fa, fc, fg, rfl, _⟩, c8⟩; have BG : Hid (Below w5.heap.size w5 w8) := bel_tr BE.out c8; clear c8))
        all_goals
          have BH : Hid (Below w.heap.size w w8) := B5.out.trans (BG.out.mono B5.out.size)
          by_cases h9 : (F : Int) < need
          · have h9b : decide ((F : Int) < need) = true := decide_eq_true h9
            go_wp2
            go_ret
            exact ⟨rfl, BH.out⟩
          · have h9b : decide ((F : Int) < need) = false := decide_eq_false h9
            have hmm := hlast (by omega)
            have h9c : decide ((m2 : Int) ≥ (m1 : Int)) = true := decide_eq_true (by omega)
            go_wp2
            go_ret
            exact ⟨rfl, BH.out⟩

theorem walk (a0 : Option Addr) (c0 : Nat) (us : List Ls) (need : Int) (y : Ls) (p : Int) (w : World) (w0 : LsIn w a0 us ∧ us.length ≤ c0) (w1 : (Lit.int .i64 need).wf = true) (w2 : LgIn2 w y) (w3 : (Lit.int .i64 p).wf = true) (z0 : ∀ x ∈ us, x.es.length * 24 ≤ reachBytes) (z2 : y.es.length * 24 ≤ reachBytes) :
    Calls Try.prog 5 #[.slice a0 us.length c0, .int .i64 need, .agg #[.int .i64 y.ep, .slice y.a y.es.length y.c], .int .i64 p] w fun e w' => e = .returned (.bool true) ∧ Below w.heap.size w w' := by
  have hb := bounds_i64 w3
  by_cases hp : p < 0
  · exact walk_b a0 c0 _ us need y p w rfl (w0.1.into z0) w0.2 (bounds_i64 w1) w2 (Nat.le_trans z2 reachN) hb (-(p + 1)).toNat (.inl ⟨hp, by omega⟩)
  · exact walk_b a0 c0 _ us need y p w rfl (w0.1.into z0) w0.2 (bounds_i64 w1) w2 (Nat.le_trans z2 reachN) hb p.toNat (.inr (by omega))

set_option maxRecDepth 100000 in
theorem lifted (os : Os) (started : os.Started) (H : Type) (enc : TypeId × Value → H) :
    ReturnsInHanded {} Try.checked os 5 .any (Rows.chooseMoreSpec.pre6 enc Try.prog Try.f5 Rows.chooseMoreRow.domain false) (Rows.chooseMoreSpec.post enc Try.prog Try.f5 false true false false) := by
  refine returnsInHanded_of_change_sized (C := Try.checked) own started (by kernel_rfl) Try.func5
    (ChangeSpec.witness6 (enc := enc) (C := Try.checked) false ⟨#[], #[.slice none 0 0, .int .i64 0, .agg #[.int .i64 0, .slice none 0 0], .int .i64 0], []⟩ 8 (by kernel_rfl) (by kernel_rfl) (by kernel_rfl) (by kernel_rfl)) ?_
  intro W base args ds gs before hval0 hW hcnd hsz0 _
  have hval : ∀ (j : Nat) t v, Try.f5.params[j]? = some t → args[j]? = some v → Value.okWide Try.prog W .any base t v := hval0
  have hW' := hW
  obtain ⟨p, q, hA0, hV, rfl, hfz, hnd⟩ := hW
  have hA : DataW.TrodAll enc Try.prog W 0 (fun _ => true) true Try.f5.params.toList args.toList ds p := hA0
  have hsz : (DataW.weightsEach Try.prog (Try.f5.params.toList ++ Rows.chooseMoreSpec.plain.varTypes Try.prog) (ds ++ gs)).all (· ≤ reachBytes) = true := hsz0
  rw [Try.params5] at hA hval hsz
  obtain ⟨v0, vs0, d0, ds0, p0, q0, hargs, rfl, rfl, h0, r0⟩ := trodAll_cons hA
  obtain ⟨v1, vs1, d1, ds1, p1, q1, rfl, rfl, rfl, h1, r1⟩ := trodAll_cons r0
  obtain ⟨v2, vs2, d2, ds2, p2, q2, rfl, rfl, rfl, h2, r2⟩ := trodAll_cons r1
  obtain ⟨v3, vs3, d3, ds3, p3, q3, rfl, rfl, rfl, h3, r3⟩ := trodAll_cons r2
  obtain ⟨rfl, rfl, rfl⟩ := trodAll_nil r3
  obtain rfl : args = #[v0, v1, v2, v3] := by cases args; simp_all
  obtain ⟨rfl, rfl⟩ := trodVars_none hV
  obtain ⟨a0, len0, cap0, rfl⟩ := okWide_slice Try.underlying22 (hval 0 22 v0 rfl rfl)
  have k0 := h0
  have lt0 : ∀ x ∈ p0, x.block < W.heap.size := by obtain ⟨m, hm⟩ := k0; exact DataW.trod_lt m _ _ _ hm
  obtain ⟨ss0, y0, w0, n0⟩ := Chs.open_logs h0
  subst y0
  obtain ⟨a1, rfl, rfl, rfl, w1⟩ := open_int Try.underlying3 (hval 1 3 v1 rfl rfl) h1
  have k2 := h2
  have lt2 : ∀ x ∈ p2, x.block < W.heap.size := by obtain ⟨m, hm⟩ := k2; exact DataW.trod_lt m _ _ _ hm
  obtain ⟨e2, rfl, w2, n2⟩ := Chs.open_log2 (hval 2 31 v2 rfl rfl) h2
  obtain ⟨a3, rfl, rfl, rfl, w3⟩ := open_int Try.underlying3 (hval 3 3 v3 rfl rfl) h3
  have z0 := n0 (fun x hx => by simpa using List.all_eq_true.1 hsz x (DataW.weights_mem_each (j := 0) (t := 22) rfl rfl x hx))
  have z2 := n2 (fun x hx => by simpa using List.all_eq_true.1 hsz x (DataW.weights_mem_each (j := 2) (t := 31) rfl rfl x hx))
  clear hA0 hval0
  refine (walk a0 cap0 ss0 a1 e2 a3 W w0 w1 w2 w3 z0 z2).mono fun e W' ⟨he, bel⟩ => ?_
  subst he
  exact ⟨_, rfl, _, _, _, [], _, [], hW', trodAll_mk1 (shut_bool Try.underlying4 _), (trodAll_cons_mk (Below.trod laidOut (by kernel_rfl) (of_decide_eq_true (by kernel_rfl)) k0 bel lt0) (trodAll_cons_mk (shut_int Try.underlying3 w1) (trodAll_cons_mk (Below.trod laidOut (by kernel_rfl) (of_decide_eq_true (by kernel_rfl)) k2 bel lt2) (trodAll_cons_mk (shut_int Try.underlying3 w3) trodAll_mk0)))), rfl, bel.frame _, fun h => by cases h⟩

theorem over : Rows.chooseMoreRow.holds Try.pinned (OpenSpec.ofChange Rows.chooseMoreSpec) :=
  OpenClaim.holds_of_wide 5 Try.f5 rfl rfl rfl rfl rfl rfl rfl ⟨rfl, rfl, rfl, rfl, rfl⟩ rfl rfl rfl rfl rfl (by kernel_rfl) Try.func5 (by kernel_rfl)
    (of_decide_eq_true (by kernel_rfl)) (by unfold Func.isWrapper; first | (rw [if_pos (by decide +kernel)]; kernel_rfl) | (rw [if_neg (by decide +kernel)]; exact ⟨rfl, rfl⟩))
    (fun os started H enc _ => lifted os started H enc)
end Go.Proofs.Ytapnjgmihfmapaa.chooseMore

namespace Go.Proofs.Ytapnjgmihfmapaa
/-- The statement. -/
theorem chooseMore_holds : Rows.ChooseMoreSaid := chooseMore.over
#print axioms chooseMore_holds
end Go.Proofs.Ytapnjgmihfmapaa
