/- The contract of quota.Room. -/
import Derived.Test.YtlfehfajaelmlaaQuotaF4
import Derived.Test.YtlfehfajaelmlaaTreeN
import Derived.Lib.MinMax
namespace Go.Proofs.Ytlfehfajaelmlaa
open Go.RowKit

set_option maxRecDepth 100000 in
set_option maxHeartbeats 4000000 in
theorem room_val {a : Option Addr} {n c : Nat} {xs : NS} {w : World} (h : NL w a n xs) (u : Bool) (hu : u = true ↔ Right xs) (p : ByteArray) (hs : p.size ≤ maxLen) (R : Int) (hR : rooms u xs p = R) :
    Calls Try.prog 14 #[.slice a n c, .string p] w fun e w' => e = .returned (.int .i64 R) ∧ Below w.heap.size w w' := by
  have CR : Hid (Calls Try.prog 16 #[.slice a n c] w fun e w' => e = .returned (.bool u) ∧ Below w.heap.size w w') := right_val h u hu
  cases u with
  | false =>
    have h0 : R = 0 := by rw [← hR]; rfl
    subst h0
    clear hu hR
    go_enter Try.func14, Try.ntmps14
    go_wp2_with (go_at_call 16; refine CR.out.mono ?_; rintro e w1 ⟨rfl, c1⟩; have cc : Hid _ := c1; clear c1)
    go_ret
    exact ⟨rfl, cc.out⟩
  | true =>
    have hr := hu.1 rfl
    have hR2 : roomI xs p = R := hR
    have CF : Hid (∀ W I, Below w.heap.size w W → findI xs p = I → Calls Try.prog 17 #[.slice a n c, .string p] W fun e w' => e = .returned (.int .i64 I) ∧ Below W.heap.size W w') := fun W I hb hI => find_val (h.below hb) p I hI
    have hlen : xs.length = n := by obtain ⟨_, _, _, _, k2, _⟩ := h.ex; exact k2
    have hn60 : n ≤ 60 := by rw [← hlen]; exact hr.few
    rcases findI_cases xs p with ⟨h1, h2, h3⟩ | ⟨j, h1, h2, hj, h3⟩
    · have h0 : R = 0 := by rw [← hR2]; unfold roomI; rw [if_neg (by rw [h3]; decide)]
      subst h0
      have HI : Hid _ := h2
      clear hu hR hR2 h1 h2 h3 hr
      go_enter Try.func14, Try.ntmps14
      go_wp2_with (first
        | (go_at_call 16; refine CR.out.mono ?_; rintro e w1 ⟨rfl, c1⟩; have cc : Hid _ := c1; clear c1)
        | (go_at_call 17; refine (CF.out _ _ cc.out HI.out).mono ?_; rintro e w2 ⟨rfl, c2⟩; have cc2 : Hid _ := bel_tr cc.out c2; clear c2))
      go_ret
      exact ⟨rfl, cc2.out⟩
    · have hjn : j < n := by rw [← hlen]; exact hj
      obtain ⟨b0, off, ha⟩ := h.addr (by omega)
      subst ha
      have HDC : Hid (∀ W, Below w.heap.size w W → W.cell? ⟨b0, off + j * 5 + 1, none⟩ = some (.bool xs[j].dir)) := fun W hb => (h.below hb).dir rfl hj
      have HI : Hid _ := h2
      cases hd : xs[j].dir with
      | false =>
        rw [hd] at h3 HDC
        have h0 : R = 0 := by rw [← hR2]; unfold roomI; rw [if_neg (by rw [h3]; decide)]
        subst h0
        clear hu hR hR2 h1 h2 h3 hr hd
        go_enter Try.func14, Try.ntmps14
        go_wp2_with (first
          | (go_at_call 16; refine CR.out.mono ?_; rintro e w1 ⟨rfl, c1⟩; have cc : Hid _ := c1; clear c1)
          | (go_at_call 17; refine (CF.out _ _ cc.out HI.out).mono ?_; rintro e w2 ⟨rfl, c2⟩; have cc2 : Hid _ := bel_tr cc.out c2; have hdc := HDC.out _ cc2.out; clear c2))
        go_ret
        exact ⟨rfl, cc2.out⟩
      | true =>
        rw [hd] at h3 HDC
        have hR3 : max (roomF xs p (60 - (n : Int)) xs) 0 = R := by rw [← hR2]; unfold roomI; rw [if_pos (by rw [h3]; rfl), hlen]
        have CC : Hid (∀ W, Below w.heap.size w W → Calls Try.prog 21 #[.slice (some ⟨b0, off, none⟩) n c] W fun e w' => CountsR W.heap.size xs e w' ∧ Below W.heap.size W w') := fun W hb => counts_val (h.below hb) hr
        obtain ⟨b1, off1, ps, k1, k2, k3⟩ := h.ex
        have HK : Hid (Nds w (some ⟨b0, off, none⟩) b1 off1 ps) := k3
        have HP : Hid (ps.length = n) := by show ps.length = n; rw [← k2, ← k1, List.length_map]
        have HM : Hid (ps.map (·.1) = xs) := k1
        have HR : Hid (Right xs) := hr
        have HR3 : Hid _ := hR3
        have HL : Hid (xs.length = n) := hlen
        clear h k1 k2 k3 hr hR hR2 hR3 hu h1 h2 h3 hd hlen
        go_enter Try.func14, Try.ntmps14
        go_wp2_with (first
          | (go_at_call 16; refine CR.out.mono ?_; rintro e w1 ⟨rfl, c1⟩; have cc : Hid _ := c1; clear c1)
          | (go_at_call 17; refine (CF.out _ _ cc.out HI.out).mono ?_; rintro e w2 ⟨rfl, c2⟩; have cc2 : Hid _ := bel_tr cc.out c2; have hdc := HDC.out _ cc2.out; clear c2)
          | (go_at_call 21; refine (CC.out _ cc2.out).mono ?_; rintro e w3 ⟨⟨b, rfl, hbb, hH⟩, c3⟩; have cc3 : Hid (Below w.heap.size w w3) := bel_tr cc2.out c3; have HH : Hid (Held w3 b 420 (cntL xs)) := hH; clear c3 hH hbb))
        clear CR CC CF HDC cc hdc HI
        have HO : Hid (∀ W s F, Below w3.heap.size w3 W → s.size ≤ maxLen → cntL xs s = F → (Instr.lookup 42 (.map (some b)) (.string s) false).run Try.prog W = .ok (.int .i64 (F : Int)) W) := fun W s F hb hs hF => (HH.out.below hb).look s hs F hF
        have HS : Hid (p.size ≤ maxLen) := hs
        clear HH hs
        go_loopw [7, 9, 33] (fun v7 _ v wr => ∃ (i : Nat), i ≤ n ∧ v = .int .i64 i ∧ v7 = .int .i64 (roomF xs p (60 - (n : Int)) (xs.take i)) ∧ Below w3.heap.size w3 wr) (fun _ _ v _ => n - (intOf v).toNat)
        case atStart => exact ⟨0, by omega, rfl, rfl, Below.refl _ _⟩
        case round =>
          obtain ⟨i, hi, rfl, rfl, hb⟩ := hrel
          have HB : Hid (Below w3.heap.size w3 wr) := hb
          have hr1 := roomF_le xs p (xs.take i) (60 - (n : Int))
          have hr2 := roomF_ge xs p (xs.take i) (60 - (n : Int)) (by rw [HL.out]; omega)
          rw [HL.out] at hr2
          by_cases hlt : i < n
          · have hip : i < ps.length := by rw [HP.out]; exact hlt
            have hix : i < xs.length := by rw [← HM.out, List.length_map]; exact hip
            have hK := HK.out.below (bel_tr cc3.out hb)
            obtain ⟨e0, e1, e2, e3, e4⟩ := hK.at hip
            have hadr := hK.addr (by omega)
            obtain ⟨rfl, rfl⟩ : b0 = b1 ∧ off = off1 := by simpa using hadr
            have exi : ps[i].1 = xs[i] := by
              have := HM.out
              subst this
              simp
            have hsp : splitE ps[i].1.path = 0 := by rw [exi]; exact fits_path (HR.out.fit _ (List.getElem_mem hix))
            have hsz : ps[i].1.path.size ≤ 120 := by rw [splitX_ok hsp]; exact pathT_small (split_ok hsp).1
            have hFT : roomF xs p (60 - (n : Int)) (xs.take (i + 1)) = roomS xs p (roomF xs p (60 - (n : Int)) (xs.take i)) ps[i].1 := by rw [roomF_take xs p _ hix, exi]
            obtain ⟨F, hF⟩ : ∃ F, cntL xs ps[i].1.path = F := ⟨_, rfl⟩
            have hF60 : F ≤ 60 := by
              have h1 := cnt_le xs ps[i].1.path
              have h2 := HR.out.few
              omega
            have hqm := quota_most HR.out (x := ps[i].1) (by rw [exi]; exact List.getElem_mem hix)
            have CM : Hid (∀ o v, decide (0 ≤ ps[i].1.quota) = v → Calls Try.prog 22 #[ndV ps[i]] (wr.alloc o) fun e w' => e = .returned (.bool v) ∧ Below (wr.alloc o).heap.size (wr.alloc o) w') := fun o v hv => limited_val ps[i] _ v hv
            have CU : Hid (∀ W v, underB ps[i].1.path p = v → Calls Try.prog 25 #[.string ps[i].1.path, .string p] W fun e w' => e = .returned (.bool v) ∧ Below W.heap.size W w') := fun W v hv => under_val _ _ v W (by unfold maxLen; omega) HS.out hv
            have HO2 : Hid (∀ W, Below wr.heap.size wr W → (Instr.lookup 42 (.map (some b)) (.string ps[i].1.path) false).run Try.prog W = .ok (.int .i64 (F : Int)) W) := fun W hW => HO.out W _ F (bel_tr HB.out hW) (by unfold maxLen; omega) hF
            generalize roomF xs p (60 - (n : Int)) (xs.take i) = r at *
            have hS : roomS xs p r ps[i].1 = if 0 ≤ ps[i].1.quota ∧ underB ps[i].1.path p = true then min r (ps[i].1.quota - (F : Int)) else r := by unfold roomS; rw [hF]
            rw [hS] at hFT
            have HFT : Hid _ := hFT
            clear hb hK exi hsp hFT hF hix hS hadr hsz
            generalize ps[i] = x at *
            obtain ⟨⟨pa, d, q, bs, wb⟩, ⟨sa, sn, sc⟩⟩ := x
            unfold ndV at CM
            simp only at e0 e1 e2 e3 e4 CM CU HFT HO2 hqm
            have hst := run_store_str
            have hst2 : ∀ (w : World) (a : Addr) (x : Option Addr) (n c : Nat) (m : Mode), (store a (.slice x n c) m).run Try.prog w = stored Try.prog w a (.slice x n c) m := fun w a x n c m => run_store_any w a _ m rfl
            cases hq : decide (0 ≤ q) with
            | false =>
              have HQ : Hid _ := hq
              have HE : Hid (roomF xs p (60 - (n : Int)) (xs.take (i + 1)) = r) := by
                show _ = _
                rw [decide_eq_false_iff_not] at hq
                rw [HFT.out, if_neg (fun e => hq e.1)]
              clear hq
              go_wp2_with (go_at_call 22; refine (CM.out _ false HQ.out).mono ?_; rintro e w5 ⟨rfl, c5⟩; have B5 : Hid (Below wr.heap.size wr w5) := bel_tr (bel_al _ _) c5; clear c5)
              go_roundw
              case rel => exact ⟨i + 1, by omega, by go_num, by rw [HE.out], bel_tr HB.out B5.out⟩
              case measure => simp [intOf]; omega
            | true =>
              have HQ : Hid _ := hq
              rw [decide_eq_true_eq] at hq
              cases hun : underB pa p with
              | false =>
                have HU : Hid _ := hun
                have HE : Hid (roomF xs p (60 - (n : Int)) (xs.take (i + 1)) = r) := by
                  show _ = _
                  rw [HFT.out, if_neg (fun e => by rw [hun] at e; cases e.2)]
                clear hun
                go_wp2_with (first
                  | (go_at_call 22; refine (CM.out _ true HQ.out).mono ?_; rintro e w5 ⟨rfl, c5⟩; have B5 : Hid (Below wr.heap.size wr w5) := bel_tr (bel_al _ _) c5; have y0 := bel_cell c5 (World.cell?_alloc_new wr _ _ 0); have Y0 : Hid _ := y0; have Y2 : Hid _ := bel_cell c5 (World.cell?_alloc_new wr _ _ 2); clear c5)
                  | (go_at_call 25; refine (CU.out _ false HU.out).mono ?_; rintro e w6 ⟨rfl, c6⟩; have B6 : Hid (Below wr.heap.size wr w6) := bel_tr B5.out c6; clear c6))
                go_roundw
                case rel => exact ⟨i + 1, by omega, by go_num, by rw [HE.out], bel_tr HB.out B6.out⟩
                case measure => simp [intOf]; omega
              | true =>
                have HU : Hid _ := hun
                obtain ⟨r2, hr2⟩ : ∃ r2, min r (q - (F : Int)) = r2 := ⟨_, rfl⟩
                have HE : Hid (roomF xs p (60 - (n : Int)) (xs.take (i + 1)) = r2) := by
                  show _ = _
                  rw [HFT.out, if_pos ⟨hq, hun⟩, hr2]
                clear hun
                go_wp2_with (first
                  | (go_at_call 22; refine (CM.out _ true HQ.out).mono ?_; rintro e w5 ⟨rfl, c5⟩; have B5 : Hid (Below wr.heap.size wr w5) := bel_tr (bel_al _ _) c5; have y0 := bel_cell c5 (World.cell?_alloc_new wr _ _ 0); have Y0 : Hid _ := y0; have Y2 : Hid _ := bel_cell c5 (World.cell?_alloc_new wr _ _ 2); clear c5)
                  | (go_at_call 25; refine (CU.out _ true HU.out).mono ?_; rintro e w6 ⟨rfl, c6⟩; have B6 : Hid (Below wr.heap.size wr w6) := bel_tr B5.out c6; have z0 := bel_cell c6 Y0.out; have z2 := bel_cell c6 Y2.out; have hlk := HO2.out _ B6.out; clear c6))
                go_roundw
                case rel => exact ⟨i + 1, by omega, by go_num, by rw [HE.out], bel_tr HB.out B6.out⟩
                case measure => simp [intOf]; omega
          · obtain rfl : i = n := by omega
            have hgd : decide ((i : Int) < (i : Int)) = false := decide_eq_false (by omega)
            have hR := HR3.out
            rw [List.take_of_length_le (by rw [HL.out]; omega)] at hr1 hr2 ⊢
            generalize roomF xs p (60 - (i : Int)) xs = r at *
            clear hb hlt
            go_wp2
            go_ret
            exact ⟨rfl, bel_tr cc3.out HB.out⟩

end Go.Proofs.Ytlfehfajaelmlaa
