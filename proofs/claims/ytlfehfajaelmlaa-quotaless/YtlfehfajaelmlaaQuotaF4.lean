/- The contract of quota.Over. -/
import Derived.Test.YtlfehfajaelmlaaQuotaF3
namespace Go.Proofs.Ytlfehfajaelmlaa
open Go.RowKit

set_option maxRecDepth 100000 in
set_option maxHeartbeats 4000000 in
theorem over_val {a : Option Addr} {n c : Nat} {xs : NS} {w : World} (h : NL w a n xs) (u : Bool) (hu : u = true ↔ Right xs) (ys : List ByteArray) (hy : overs u xs = ys) (m : Nat) (hm : ys.length = m) :
    Calls Try.prog 10 #[.slice a n c] w fun e w' => TextsR w.heap.size ys m e w' ∧ Below w.heap.size w w' := by
  obtain ⟨ti, hi1, hi2, hi3, hi4⟩ := strRow
  have CR : Hid (Calls Try.prog 16 #[.slice a n c] w fun e w' => e = .returned (.bool u) ∧ Below w.heap.size w w') := right_val h u hu
  cases u with
  | false =>
    have h0 : ys = [] := by rw [← hy]; rfl
    subst h0
    have hm0 : m = 0 := hm.symm
    subst hm0
    clear hu hy hm
    go_enter Try.func10, Try.ntmps10
    go_wp2_with (go_at_call 16; refine CR.out.mono ?_; rintro e w1 ⟨rfl, c1⟩; have cc : Hid _ := c1; clear c1)
    go_ret
    exact ⟨⟨none, 0, none, rfl, .nil rfl rfl rfl⟩, cc.out⟩
  | true =>
    have hr := hu.1 rfl
    have CC : Hid (∀ W, Below w.heap.size w W → Calls Try.prog 21 #[.slice a n c] W fun e w' => CountsR W.heap.size xs e w' ∧ Below W.heap.size W w') := fun W hb => counts_val (h.below hb) hr
    obtain ⟨b0, off, ps, k1, k2, k3⟩ := h.ex
    have HK : Hid (Nds w a b0 off ps) := k3
    have HP : Hid (ps.length = n) := by show ps.length = n; rw [← k2, ← k1, List.length_map]
    have HM : Hid (ps.map (·.1) = xs) := k1
    have HR : Hid (Right xs) := hr
    have hn60 : n ≤ 60 := by rw [← k2]; exact hr.few
    have HY : Hid ((xs.filter (overB xs)).map (·.path) = ys) := hy
    have HMM : Hid (ys.length = m) := hm
    clear h k1 k2 k3 hr hy hm hu
    go_enter Try.func10, Try.ntmps10
    go_wp2_with (first
      | (go_at_call 16; refine CR.out.mono ?_; rintro e w1 ⟨rfl, c1⟩; have cc : Hid _ := c1; clear c1)
      | (go_at_call 21; refine (CC.out _ cc.out).mono ?_; rintro e w2 ⟨⟨b, rfl, hbb, hH⟩, c2⟩; have cc2 : Hid (Below w.heap.size w w2) := bel_tr cc.out c2; have HH : Hid (Held w2 b 420 (cntL xs)) := hH; clear c2 hH hbb))
    clear CR CC cc
    have HO : Hid (∀ W s F, Below w2.heap.size w2 W → s.size ≤ maxLen → cntL xs s = F → (Instr.lookup 42 (.map (some b)) (.string s) false).run Try.prog W = .ok (.int .i64 (F : Int)) W) := fun W s F hb hs hF => (HH.out.below hb).look s hs F hF
    clear HH
    go_loopw [4, 6, 14] (fun v4 _ v wr => ∃ (i : Nat) (fa : Option Addr) (fn fc : Nat) (g : Option Nat), i ≤ n ∧ v = .int .i64 i ∧ v4 = .slice fa fn fc ∧ Cel (fun k => w2.heap.size ≤ k) wr 1 (.slice fa fn fc) fn (rowC strC (((xs.take i).filter (overB xs)).map (·.path))) g ∧ Below w2.heap.size w2 wr) (fun _ _ v _ => n - (intOf v).toNat)
    case atStart => exact ⟨0, none, 0, 0, none, by omega, rfl, rfl, .nil rfl rfl rfl, Below.refl _ _⟩
    case round =>
      obtain ⟨i, fa, fn, fc, g, hi, rfl, rfl, hC, hb⟩ := hrel
      have HB : Hid (Below w2.heap.size w2 wr) := hb
      have HC : Hid (Cel (fun k => w2.heap.size ≤ k) wr 1 (.slice fa fn fc) fn (rowC strC (((xs.take i).filter (overB xs)).map (·.path))) g) := hC
      by_cases hlt : i < n
      · have hip : i < ps.length := by rw [HP.out]; exact hlt
        have hix : i < xs.length := by rw [← HM.out, List.length_map]; exact hip
        have hK := HK.out.below (bel_tr cc2.out hb)
        obtain ⟨e0, e1, e2, e3, e4⟩ := hK.at hip
        obtain rfl := hK.addr (by omega)
        have exi : ps[i].1 = xs[i] := by
          have := HM.out
          subst this
          simp
        have hsp : splitE ps[i].1.path = 0 := by rw [exi]; exact fits_path (HR.out.fit _ (List.getElem_mem hix))
        have hsz : ps[i].1.path.size ≤ 120 := by rw [splitX_ok hsp]; exact pathT_small (split_ok hsp).1
        have hFT : ((xs.take (i + 1)).filter (overB xs)).map (·.path) = ((xs.take i).filter (overB xs)).map (·.path) ++ (if overB xs ps[i].1 then [ps[i].1.path] else []) := by
          rw [filter_take (overB xs) xs i hix, List.map_append, ← exi]
          split <;> rfl
        have HFT : Hid _ := hFT
        have hfn : fn ≤ 60 := by
          have h1 := hC.len
          rw [rowC_len wideS, Nat.mul_one, Nat.mul_one, List.length_map] at h1
          have h3 := List.length_filter_le (overB xs) (xs.take i)
          rw [List.length_take] at h3
          omega
        obtain ⟨F, hF⟩ : ∃ F, cntL xs ps[i].1.path = F := ⟨_, rfl⟩
        have hF60 : F ≤ 60 := by
          have h1 := cnt_le xs ps[i].1.path
          have h2 := HR.out.few
          omega
        have hov : overB xs ps[i].1 = (decide (0 ≤ ps[i].1.quota) && decide (ps[i].1.quota < (F : Int))) := by unfold overB; rw [hF]
        have hqm := quota_most HR.out (x := ps[i].1) (by rw [exi]; exact List.getElem_mem hix)
        have CM : Hid (∀ o v, decide (0 ≤ ps[i].1.quota) = v → Calls Try.prog 22 #[ndV ps[i]] (wr.alloc o) fun e w' => e = .returned (.bool v) ∧ Below (wr.alloc o).heap.size (wr.alloc o) w') := fun o v hv => limited_val ps[i] _ v hv
        have HO2 : Hid (∀ W, Below wr.heap.size wr W → (Instr.lookup 42 (.map (some b)) (.string ps[i].1.path) false).run Try.prog W = .ok (.int .i64 (F : Int)) W) := fun W hW => HO.out W _ F (bel_tr HB.out hW) (by unfold maxLen; omega) hF
        have HOV : Hid _ := hov
        clear hb hC hK exi hsp hFT hF hov hix
        generalize ps[i] = x at *
        obtain ⟨⟨p, d, q, bs, wb⟩, ⟨sa, sn, sc⟩⟩ := x
        unfold ndV at CM
        simp only at e0 e1 e2 e3 e4 CM HFT HOV HO2 hsz hqm
        have hst := run_store_str
        have hst2 : ∀ (w : World) (a : Addr) (x : Option Addr) (n c : Nat) (m : Mode), (store a (.slice x n c) m).run Try.prog w = stored Try.prog w a (.slice x n c) m := fun w a x n c m => run_store_any w a _ m rfl
        cases hq : decide (0 ≤ q) with
        | false =>
          have HQ : Hid _ := hq
          have HE : Hid (overB xs ⟨p, d, q, bs, wb⟩ = false) := by show _ = _; rw [HOV.out, hq]; rfl
          clear hq
          go_wp2_with (go_at_call 22; refine (CM.out _ false HQ.out).mono ?_; rintro e w5 ⟨rfl, c5⟩; have B5 : Hid (Below wr.heap.size wr w5) := bel_tr (bel_al _ _) c5; clear c5)
          go_roundw
          case rel => exact ⟨i + 1, fa, fn, fc, g, by omega, by go_num, rfl, by rw [HFT.out, HE.out]; simpa using HC.out.below B5.out, bel_tr HB.out B5.out⟩
          case measure => simp [intOf]; omega
        | true =>
          have HQ : Hid _ := hq
          cases hqF : decide (q < (F : Int)) with
          | false =>
            have HE : Hid (overB xs ⟨p, d, q, bs, wb⟩ = false) := by show _ = _; rw [HOV.out, hqF]; simp
            clear hq
            go_wp2_with (go_at_call 22; refine (CM.out _ true HQ.out).mono ?_; rintro e w5 ⟨rfl, c5⟩; have B5 : Hid (Below wr.heap.size wr w5) := bel_tr (bel_al _ _) c5; have y0 := bel_cell c5 (World.cell?_alloc_new wr _ _ 0); have y2 := bel_cell c5 (World.cell?_alloc_new wr _ _ 2); clear c5; have hlk := HO2.out _ B5.out)
            go_roundw
            case rel => exact ⟨i + 1, fa, fn, fc, g, by omega, by go_num, rfl, by rw [HFT.out, HE.out]; simpa using HC.out.below B5.out, bel_tr HB.out B5.out⟩
            case measure => simp [intOf]; omega
          | true =>
            have HE : Hid (overB xs ⟨p, d, q, bs, wb⟩ = true) := by show _ = _; rw [HOV.out, hq, hqF]; rfl
            clear hq
            have HNX : Hid (((xs.take (i + 1)).filter (overB xs)).map (·.path) = ((xs.take i).filter (overB xs)).map (·.path) ++ [p]) := by show _ = _; rw [HFT.out, HE.out]; rfl
            clear HFT
            generalize ((xs.take i).filter (overB xs)).map (·.path) = A at *
            generalize hA2 : ((xs.take (i + 1)).filter (overB xs)).map (·.path) = A2 at *
            have HAP : Hid (∀ w6 o a2 c2 w7 g7, Below wr.heap.size wr w6 → Cel (Grow (fun k => w2.heap.size ≤ k) (w6.alloc o) w7) w7 1 (.slice a2 (fn + 1) c2) (fn + 1) (rowC strC A ++ rowC strC [p]) g7 → Stay (fun k => g = some k) (w6.alloc o) w7 → Cel (fun k => w2.heap.size ≤ k) w7 1 (.slice a2 (fn + 1) c2) (fn + 1) (rowC strC A2) g7 ∧ Below w2.heap.size w2 w7) := fun w6 o a2 c2 w7 g7 B hC hS => by
              have B3 : Below wr.heap.size wr (w6.alloc o) := bel_tr B (bel_al _ _)
              have z0 := HB.out.size
              have z1 := B3.size
              rw [HNX.out, rowC_app]
              refine ⟨grow_base (by omega) (fun k hk => hk) hC, (HB.out.trans (B3.mono (by omega))).trans (hS.below (by omega) (fun k hk => ?_))⟩
              have := HC.out; rw [hk] at this; exact this.lt.2
            have HA2 : Hid _ := hA2
            clear hA2
            go_wp2_with (first
              | (go_at_call 22; refine (CM.out _ true HQ.out).mono ?_; rintro e w5 ⟨rfl, c5⟩; have B5 : Hid (Below wr.heap.size wr w5) := bel_tr (bel_al _ _) c5; have y0 := bel_cell c5 (World.cell?_alloc_new wr _ _ 0); have y2 := bel_cell c5 (World.cell?_alloc_new wr _ _ 2); clear c5; have hlk := HO2.out _ B5.out)
              | (at_builtin; refine wpList_append_cel _ rfl _ _ 25 25 rfl 9 ti _ 1 16 Try.underlying25 hi1 hi2 hi3 hi4 rfl (O := fun k => w2.heap.size ≤ k) _ fn _ g rfl (HC.out.below (bel_tr B5.out (bel_al _ _))) _ 1 (rowC strC [p]) rfl (src_new1 w5 p) (by unfold maxLen; omega) (by omega) ?_; intro a7 c7 w7 g7 hC7 hS7 hf7; have HX : Hid _ := HAP.out w5 _ a7 c7 w7 g7 B5.out hC7 hS7; clear hC7 hS7 hf7))
            go_roundw
            case rel => exact ⟨i + 1, a7, fn + 1, c7, g7, by omega, by go_num, rfl, by rw [HA2.out]; exact HX.out.1, HX.out.2⟩
            case measure => simp [intOf]; omega
      · obtain rfl : i = n := by omega
        have hgd : decide ((i : Int) < (i : Int)) = false := decide_eq_false (by omega)
        rw [List.take_of_length_le (by rw [← HM.out, List.length_map, HP.out]; omega), HY.out] at hC
        have hfm : fn = m := by
          have h1 := hC.len
          rw [rowC_len wideS, Nat.mul_one, Nat.mul_one] at h1
          have := HMM.out
          omega
        subst hfm
        have HX : Hid (Cel (fun k => w.heap.size ≤ k) wr 1 (.slice fa fn fc) fn (rowC strC ys) g) := hC.stay (Nat.le_refl _) (fun _ _ => rfl) (fun k hk => Nat.le_trans cc2.out.size hk)
        clear hb hC hlt HC
        go_wp2
        go_ret
        exact ⟨⟨fa, fc, g, rfl, HX.out⟩, bel_tr cc2.out HB.out⟩

end Go.Proofs.Ytlfehfajaelmlaa
