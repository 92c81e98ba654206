/- Part 44 of the proof: QuotaR1, QuotaR2. -/
import Derived.Test.YtcnflkjkgomnoaaGreatB21
import Derived.Test.YtcnflkjkgomnoaaGreatB43
set_option maxRecDepth 100000
set_option maxHeartbeats 8000000
namespace Go.Proofs.YtcnflkjkgomnoaaGreat
open Go.RowKit
theorem refCount_val {a : Option Addr} {n c : Nat} {xs : NS} {w : World} (h : NL w a n xs) (u : Bool) (hu : u = true ↔ Right xs) (p : ByteArray) (hs : p.size ≤ maxLen) (F : Nat) (hF : countN u xs p = F) :
    Calls Tryz.prog 113 #[.slice a n c, .string p] w fun e w' => e = .returned (.int .i64 (F : Int)) ∧ Below w.heap.size w w' := by
  have CR : Hid (Calls Tryz.prog 66 #[.slice a n c] w fun e w' => e = .returned (.bool u) ∧ Below w.heap.size w w') := refRight_val h u hu
  have hlid := h.lid
  unfold maxLen at hlid; cases u with
  | false =>
    have h0 : F = 0 := by rw [← hF]; rfl
    subst h0; clear hu hF; go_enter Tryz.func113, Tryz.ntmps113; go_wp2_with (go_at_call 66; refine CR.out.mono ?_; rintro e w1 ⟨rfl, c1⟩; have cc : Hid _ := c1; clear c1)
    go_loopw [6, 7, 8] (fun v6 v7 _ wr => v6 = .int .i64 0 ∧ v7 = .int .i64 0 ∧ wr = w1) (fun _ _ _ _ => 0)
    case atStart => exact ⟨rfl, rfl, rfl⟩
    case round =>
      obtain ⟨rfl, rfl, rfl⟩ := hrel
      go_wp2
      all_goals
        go_ret; exact ⟨rfl, cc.out⟩
  | true =>
    have hr := hu.1 rfl
    obtain ⟨b0, off, ps, k1, k2, k3⟩ := h.ex
    have HK : Hid (Nds w a b0 off ps) := k3
    have HP : Hid (ps.length = n) := by show ps.length = n; rw [← k2, ← k1, List.length_map]
    have HM : Hid (ps.map (·.1) = xs) := k1
    have HR : Hid (Right xs) := hr
    have hn60 : n ≤ 60 := by rw [← k2]; exact hr.few
    have HF : Hid (cntL xs p = F) := hF
    have HS : Hid (p.size ≤ maxLen) := hs
    clear h k1 k2 k3 hr hF hu hs; go_enter Tryz.func113, Tryz.ntmps113; go_wp2_with (go_at_call 66; refine CR.out.mono ?_; rintro e w1 ⟨rfl, c1⟩; have cc : Hid _ := c1; clear c1)
    clear CR; go_loopw [6, 7, 8] (fun v6 v7 _ wr => ∃ i : Nat, i ≤ n ∧ v7 = .int .i64 i ∧ v6 = .int .i64 ((cntL (xs.take i) p : Nat) : Int) ∧ Below w.heap.size w wr) (fun _ v _ _ => n - (intOf v).toNat)
    case atStart => exact ⟨0, by omega, rfl, rfl, cc.out⟩
    case round =>
      obtain ⟨i, hi, rfl, rfl, hb⟩ := hrel
      have HB : Hid (Below w.heap.size w wr) := hb
      have hG : cntL (xs.take i) p ≤ 60 := by
        have h1 := cnt_le (xs.take i) p
        rw [List.length_take] at h1
        omega
      by_cases hlt : i < n
      · have hip : i < ps.length := by rw [HP.out]; exact hlt
        have hix : i < xs.length := by rw [← HM.out, List.length_map]; exact hip
        have hK := HK.out.below hb
        have e0 := (hK.at hip).1
        obtain rfl := hK.addr (by omega)
        have exi : ps[i].1 = xs[i] := by
          have := HM.out
          subst this; simp
        have hsm := (hK.ok _ (List.getElem_mem hip)).small
        have hcs : cntL (xs.take (i + 1)) p = cntL (xs.take i) p + (if underB p ps[i].1.path then 1 else 0) := by
          rw [List.take_succ_eq_append_getElem hix, cnt_app, cnt_one, exi]
        have HCS : Hid _ := hcs
        have CU : Hid (∀ W v, underB p ps[i].1.path = v → Calls Tryz.prog 147 #[.string p, .string ps[i].1.path] W fun e w' => e = .returned (.bool v) ∧ Below W.heap.size W w') := fun W v hv => refUnder_val _ _ v W HS.out hsm hv
        clear hb hK exi hcs hsm hix; generalize ps[i].1.path = q at *
        generalize cntL (xs.take i) p = G at *
        cases hun : underB p q with
        | false =>
          have HU : Hid _ := hun
          have HE : Hid (cntL (xs.take (i + 1)) p = G) := by show _ = _; rw [HCS.out, hun]; rfl
          clear hun; go_wp2_with (go_at_call 147; refine (CU.out _ false HU.out).mono ?_; rintro e w2 ⟨rfl, c2⟩; have B2 : Hid _ := c2; clear c2)
          go_roundw
          case rel => exact ⟨i + 1, by omega, by go_num, by rw [HE.out], bel_tr HB.out B2.out⟩
          case measure => simp [intOf]; omega
        | true =>
          have HU : Hid _ := hun
          have HE : Hid (cntL (xs.take (i + 1)) p = G + 1) := by show _ = _; rw [HCS.out, hun]; rfl
          clear hun; go_wp2_with (go_at_call 147; refine (CU.out _ true HU.out).mono ?_; rintro e w2 ⟨rfl, c2⟩; have B2 : Hid _ := c2; clear c2)
          go_roundw
          case rel => exact ⟨i + 1, by omega, by go_num, by rw [HE.out]; go_num, bel_tr HB.out B2.out⟩
          case measure => simp [intOf]; omega
      · obtain rfl : i = n := by omega
        have hgd : decide ((i : Int) < (i : Int)) = false := decide_eq_false (by omega)
        have hE : cntL (xs.take i) p = F := by rw [List.take_of_length_le (by rw [← HM.out, List.length_map, HP.out]; omega), HF.out]
        rw [hE] at hG ⊢
        clear hb hlt hE; go_wp2; go_ret; exact ⟨rfl, HB.out⟩
theorem refOver_val {a : Option Addr} {n c : Nat} {xs : NS} {w : World} (h : NL w a n xs) (u : Bool) (hu : u = true ↔ Right xs) (ys : List ByteArray) (hy : overs u xs = ys) (m : Nat) (hm : ys.length = m) :
    Calls Tryz.prog 68 #[.slice a n c] w fun e w' => TextsR w.heap.size ys m e w' ∧ Below w.heap.size w w' := by
  obtain ⟨ti, hi1, hi2, hi3, hi4⟩ := strRow
  have CR : Hid (Calls Tryz.prog 66 #[.slice a n c] w fun e w' => e = .returned (.bool u) ∧ Below w.heap.size w w') := refRight_val h u hu
  have hlid := h.lid
  unfold maxLen at hlid; cases u with
  | false =>
    have h0 : ys = [] := by rw [← hy]; rfl
    subst h0; have hm0 : m = 0 := hm.symm
    subst hm0; clear hu hy hm; go_enter Tryz.func68, Tryz.ntmps68; go_wp2_with (go_at_call 66; refine CR.out.mono ?_; rintro e w1 ⟨rfl, c1⟩; have cc : Hid _ := c1; clear c1)
    go_loopw [4, 5] (fun v4 v5 wr => v4 = .slice none 0 0 ∧ v5 = .int .i64 0 ∧ wr = w1) (fun _ _ _ => 0)
    case atStart => exact ⟨rfl, rfl, rfl⟩
    case round =>
      obtain ⟨rfl, rfl, rfl⟩ := hrel
      go_wp2
      all_goals
        go_ret; exact ⟨⟨none, 0, none, rfl, .nil rfl rfl rfl⟩, cc.out⟩
  | true =>
    have hr := hu.1 rfl
    have CC : Hid (∀ W s F, Below w.heap.size w W → s.size ≤ maxLen → cntL xs s = F → Calls Tryz.prog 113 #[.slice a n c, .string s] W fun e w' => e = .returned (.int .i64 (F : Int)) ∧ Below W.heap.size W w') := fun W s F hb hs hF => refCount_val (h.below hb) true hu s hs F hF
    obtain ⟨b0, off, ps, k1, k2, k3⟩ := h.ex
    have HK : Hid (Nds w a b0 off ps) := k3
    have HP : Hid (ps.length = n) := by show ps.length = n; rw [← k2, ← k1, List.length_map]
    have HM : Hid (ps.map (·.1) = xs) := k1
    have HR : Hid (Right xs) := hr
    have hn60 : n ≤ 60 := by rw [← k2]; exact hr.few
    have HY : Hid ((xs.filter (overB xs)).map (·.path) = ys) := hy
    have HMM : Hid (ys.length = m) := hm
    clear h k1 k2 k3 hr hy hm hu; go_enter Tryz.func68, Tryz.ntmps68; go_wp2_with (go_at_call 66; refine CR.out.mono ?_; rintro e w2 ⟨rfl, c2⟩; have cc2 : Hid (Below w.heap.size w w2) := c2; clear c2)
    clear CR; go_loopw [4, 5] (fun v4 v wr => ∃ (i : Nat) (fa : Option Addr) (fn fc : Nat) (g : Option Nat), i ≤ n ∧ v = .int .i64 i ∧ v4 = .slice fa fn fc ∧ Cel (fun k => w2.heap.size ≤ k) wr 1 (.slice fa fn fc) fn (rowC strC (((xs.take i).filter (overB xs)).map (·.path))) g ∧ Below w2.heap.size w2 wr) (fun _ v _ => n - (intOf v).toNat)
    case atStart => exact ⟨0, none, 0, 0, none, by omega, rfl, rfl, .nil rfl rfl rfl, Below.refl _ _⟩
    case round =>
      obtain ⟨i, fa, fn, fc, g, hi, rfl, rfl, hC, hb⟩ := hrel
      have HB : Hid (Below w2.heap.size w2 wr) := hb
      have HC : Hid (Cel (fun k => w2.heap.size ≤ k) wr 1 (.slice fa fn fc) fn (rowC strC (((xs.take i).filter (overB xs)).map (·.path))) g) := hC
      by_cases hlt : i < n
      · have hip : i < ps.length := by rw [HP.out]; exact hlt
        have hix : i < xs.length := by rw [← HM.out, List.length_map]; exact hip
        have hK := HK.out.below (bel_tr cc2.out hb)
        obtain ⟨e0, e1, e2, e3, e4⟩ := hK.at hip
        obtain rfl := hK.addr (by omega)
        have exi : ps[i].1 = xs[i] := by
          have := HM.out
          subst this; simp
        have hsp : splitE ps[i].1.path = 0 := by rw [exi]; exact fits_path (HR.out.fit _ (List.getElem_mem hix))
        have hsz : ps[i].1.path.size ≤ 120 := by rw [splitX_ok hsp]; exact pathT_small (split_ok hsp).1
        have hFT : ((xs.take (i + 1)).filter (overB xs)).map (·.path) = ((xs.take i).filter (overB xs)).map (·.path) ++ (if overB xs ps[i].1 then [ps[i].1.path] else []) := by
          rw [filter_take (overB xs) xs i hix, List.map_append, ← exi]
          split <;> rfl
        have HFT : Hid _ := hFT
        have hfn : fn ≤ 60 := by
          have h1 := hC.len
          rw [rowC_len wideS, Nat.mul_one, Nat.mul_one, List.length_map] at h1
          have h3 := List.length_filter_le (overB xs) (xs.take i)
          rw [List.length_take] at h3
          omega
        obtain ⟨F, hF⟩ : ∃ F, cntL xs ps[i].1.path = F := ⟨_, rfl⟩
        have hF60 : F ≤ 60 := by
          have h1 := cnt_le xs ps[i].1.path
          have h2 := HR.out.few
          omega
        have hov : overB xs ps[i].1 = (decide (0 ≤ ps[i].1.quota) && decide (ps[i].1.quota < (F : Int))) := by unfold overB; rw [hF]
        have hmem : ps[i].1 ∈ xs := by rw [exi]; exact List.getElem_mem hix
        have hqm := quota_most HR.out (x := ps[i].1) hmem
        have hqd : 0 ≤ ps[i].1.quota → ps[i].1.dir = true := quota_dir HR.out hmem
        have HQD : Hid _ := hqd
        have CC2 : Hid (∀ W, Below wr.heap.size wr W → Calls Tryz.prog 113 #[.slice (some ⟨b0, off, none⟩) n c, .string ps[i].1.path] W fun e w' => e = .returned (.int .i64 (F : Int)) ∧ Below W.heap.size W w') := fun W hW => CC.out W _ F (bel_tr cc2.out (bel_tr HB.out hW)) (by unfold maxLen; omega) hF
        have HOV : Hid _ := hov
        clear hb hC hK exi hsp hFT hF hov hix hqd hmem; generalize ps[i] = x at *
        obtain ⟨⟨p, d, q, bs, wb⟩, ⟨sa, sn, sc⟩⟩ := x
        simp only at e0 e1 e2 e3 e4 HFT HOV HQD CC2 hsz hqm
        have r0 : ∀ dd os, (Sort.grow (redrawn wr dd) os).cell? ⟨b0, off + i * 5, none⟩ = some (.string p) := fun dd os => cell_regrown e0 dd os
        have r1 : ∀ dd os, (Sort.grow (redrawn wr dd) os).cell? ⟨b0, off + i * 5 + 1, none⟩ = some (.bool d) := fun dd os => cell_regrown e1 dd os
        have r2 : ∀ dd os, (Sort.grow (redrawn wr dd) os).cell? ⟨b0, off + i * 5 + 2, none⟩ = some (.int .i64 q) := fun dd os => cell_regrown e2 dd os
        have CC3 : Hid (∀ dd os, Calls Tryz.prog 113 #[.slice (some ⟨b0, off, none⟩) n c, .string p] (Sort.grow (redrawn wr dd) os) fun e w' => e = .returned (.int .i64 (F : Int)) ∧ Below (Sort.grow (redrawn wr dd) os).heap.size (Sort.grow (redrawn wr dd) os) w') := fun dd os => CC2.out _ (below_regrown wr dd os)
        have E0 : Hid _ := e0
        clear CC2 e1 e2 e3 e4 e0; cases hd : d with
        | false =>
          subst hd; have HE : Hid (overB xs ⟨p, false, q, bs, wb⟩ = false) := by
            show _ = _
            rw [HOV.out, Bool.and_eq_false_iff]
            left
            rw [decide_eq_false_iff_not]
            intro e; have := HQD.out e; cases this
          go_wp2; refine wp_region_quiet_below (by kernel_rfl) (by kernel_rfl) ?_
          repeat (first | go_big_quiet_step (first | exact Calls.regrown_of (CC3.out _ _) | fail) | quiet_step (first | exact Calls.regrown_of (CC3.out _ _) | fail))
          refine wpQuiet_nil ?_
          intro _ hw'
          obtain ⟨⟨dq, osq⟩, hw''⟩ := hw'
          subst hw''
          go_wp2; go_roundw
          case rel => exact ⟨i + 1, fa, fn, fc, g, by omega, by go_num, rfl, by rw [HFT.out, HE.out]; simpa using HC.out.below (below_regrown wr dq osq), bel_tr HB.out (below_regrown wr dq osq)⟩
          case measure => simp [intOf]; omega
        | true =>
          subst hd; cases hq : decide (0 ≤ q) with
          | false =>
            have HE : Hid (overB xs ⟨p, true, q, bs, wb⟩ = false) := by show _ = _; rw [HOV.out, hq]; rfl
            go_wp2; refine wp_region_quiet_below (by kernel_rfl) (by kernel_rfl) ?_
            repeat (first | go_big_quiet_step (first | exact Calls.regrown_of (CC3.out _ _) | fail) | quiet_step (first | exact Calls.regrown_of (CC3.out _ _) | fail))
            refine wpQuiet_nil ?_
            intro _ hw'
            obtain ⟨⟨dq, osq⟩, hw''⟩ := hw'
            subst hw''
            go_wp2; go_roundw
            case rel => exact ⟨i + 1, fa, fn, fc, g, by omega, by go_num, rfl, by rw [HFT.out, HE.out]; simpa using HC.out.below (below_regrown wr dq osq), bel_tr HB.out (below_regrown wr dq osq)⟩
            case measure => simp [intOf]; omega
          | true =>
            cases hqF : decide (q < (F : Int)) with
            | false =>
              have HE : Hid (overB xs ⟨p, true, q, bs, wb⟩ = false) := by show _ = _; rw [HOV.out, hqF]; simp
              go_wp2; refine wp_region_quiet_below (by kernel_rfl) (by kernel_rfl) ?_
              repeat (first | go_big_quiet_step (first | exact Calls.regrown_of (CC3.out _ _) | fail) | quiet_step (first | exact Calls.regrown_of (CC3.out _ _) | fail))
              refine wpQuiet_nil ?_
              intro _ hw'
              obtain ⟨⟨dq, osq⟩, hw''⟩ := hw'
              subst hw''
              go_wp2; go_roundw
              case rel => exact ⟨i + 1, fa, fn, fc, g, by omega, by go_num, rfl, by rw [HFT.out, HE.out]; simpa using HC.out.below (below_regrown wr dq osq), bel_tr HB.out (below_regrown wr dq osq)⟩
              case measure => simp [intOf]; omega
            | true =>
              have HE : Hid (overB xs ⟨p, true, q, bs, wb⟩ = true) := by show _ = _; rw [HOV.out, hq, hqF]; rfl
              have HNX : Hid (((xs.take (i + 1)).filter (overB xs)).map (·.path) = ((xs.take i).filter (overB xs)).map (·.path) ++ [p]) := by show _ = _; rw [HFT.out, HE.out]; rfl
              clear HFT; generalize ((xs.take i).filter (overB xs)).map (·.path) = A at *
              generalize hA2 : ((xs.take (i + 1)).filter (overB xs)).map (·.path) = A2 at *
              have HAP : Hid (∀ w6 o a2 c2 w7 g7, Below wr.heap.size wr w6 → Cel (Grow (fun k => w2.heap.size ≤ k) (w6.alloc o) w7) w7 1 (.slice a2 (fn + 1) c2) (fn + 1) (rowC strC A ++ rowC strC [p]) g7 → Stay (fun k => g = some k) (w6.alloc o) w7 → Cel (fun k => w2.heap.size ≤ k) w7 1 (.slice a2 (fn + 1) c2) (fn + 1) (rowC strC A2) g7 ∧ Below w2.heap.size w2 w7) := fun w6 o a2 c2 w7 g7 B hC hS => by
                have B3 : Below wr.heap.size wr (w6.alloc o) := bel_tr B (bel_al _ _)
                have z0 := HB.out.size
                have z1 := B3.size
                rw [HNX.out, rowC_app]
                refine ⟨grow_base (by omega) (fun k hk => hk) hC, (HB.out.trans (B3.mono (by omega))).trans (hS.below (by omega) (fun k hk => ?_))⟩
                have := HC.out; rw [hk] at this; exact this.lt.2
              have HA2 : Hid _ := hA2
              clear hA2; go_wp2; refine wp_region_quiet_below (by kernel_rfl) (by kernel_rfl) ?_
              repeat (first | go_big_quiet_step (first | exact Calls.regrown_of (CC3.out _ _) | fail) | quiet_step (first | exact Calls.regrown_of (CC3.out _ _) | fail))
              refine wpQuiet_nil ?_
              intro _ hw'
              obtain ⟨⟨dq, osq⟩, hw''⟩ := hw'
              subst hw''
              have B5 : Hid (Below wr.heap.size wr (Sort.grow (redrawn wr dq) osq)) := below_regrown wr dq osq
              have f0 : (Sort.grow (redrawn wr dq) osq).cell? ⟨b0, off + i * 5, none⟩ = some (.string p) := r0 dq osq
              clear r0 r1 r2 CC3; generalize Sort.grow (redrawn wr dq) osq = w5 at *
              go_wp2_with (at_builtin; refine wpList_append_cel _ rfl _ _ 32 32 rfl 9 ti _ 1 16 Tryz.underlying32 hi1 hi2 hi3 hi4 rfl (O := fun k => w2.heap.size ≤ k) _ fn _ g rfl (HC.out.below (bel_tr B5.out (bel_al _ _))) _ 1 (rowC strC [p]) rfl (src_new1 w5 p) (by unfold maxLen; omega) (by omega) ?_; intro a7 c7 w7 g7 hC7 hS7 hf7; have HX : Hid _ := HAP.out w5 _ a7 c7 w7 g7 B5.out hC7 hS7; clear hC7 hS7 hf7)
              go_roundw
              case rel => exact ⟨i + 1, a7, fn + 1, c7, g7, by omega, by go_num, rfl, by rw [HA2.out]; exact HX.out.1, HX.out.2⟩
              case measure => simp [intOf]; omega
      · obtain rfl : i = n := by omega
        have hgd : decide ((i : Int) < (i : Int)) = false := decide_eq_false (by omega)
        rw [List.take_of_length_le (by rw [← HM.out, List.length_map, HP.out]; omega), HY.out] at hC
        have hfm : fn = m := by
          have h1 := hC.len
          rw [rowC_len wideS, Nat.mul_one, Nat.mul_one] at h1
          have := HMM.out
          omega
        subst hfm; have HX : Hid (Cel (fun k => w.heap.size ≤ k) wr 1 (.slice fa fn fc) fn (rowC strC ys) g) := hC.stay (Nat.le_refl _) (fun _ _ => rfl) (fun k hk => Nat.le_trans cc2.out.size hk)
        clear hb hC hlt HC; go_wp2; go_ret; exact ⟨⟨fa, fc, g, rfl, HX.out⟩, bel_tr cc2.out HB.out⟩
end Go.Proofs.YtcnflkjkgomnoaaGreat
