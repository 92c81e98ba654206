/- The contract of tabulariumref07.Remove. -/
import Derived.Test.YtdcmhbodjmajcaaTreeR6
namespace Go.Proofs.Ytdcmhbodjmajcaa
open Go.RowKit

set_option maxRecDepth 100000 in
set_option maxHeartbeats 2000000 in
theorem refRemove_val {a : Option Addr} {n c : Nat} {xs : NS} {w : World} (h : NL w a n xs) (p : ByteArray) (hp : p.size ≤ maxLen) (E : Int) (hE : RemE xs p E) :
    Calls Try.prog 25 #[.slice a n c, .string p] w fun e w' => TwoR w.heap.size (remL xs p E) E e w' ∧ Below w.heap.size w w' := by
  have CR : Hid (∀ W u, Below w.heap.size w W → (u = true ↔ Right xs) → Calls Try.prog 16 #[.slice a n c] W fun e w' => e = .returned (.bool u) ∧ Below W.heap.size W w') := fun W u hb hu => refRight_val (h.below hb) u hu
  have CF : Hid (∀ W I, Below w.heap.size w W → findI xs p = I → Calls Try.prog 18 #[.slice a n c, .string p] W fun e w' => e = .returned (.int .i64 I) ∧ Below W.heap.size W w') := fun W I hb hI => refFind_val (h.below hb) p I hI
  have HP : Hid (p.size ≤ maxLen) := hp
  have HLEN : Hid (xs.length = n) := by obtain ⟨_, _, _, _, k2, _⟩ := h.ex; exact k2
  have HNL : Hid (NL w a n xs) := h
  have hlid := h.lid
  unfold maxLen at hlid
  have e0 := root_eq p
  clear h hp
  cases hE with
  | arg hn =>
    have hr : remL xs p 1 = [] := rfl
    rw [hr]
    by_cases h1 : Right xs
    · have H1 : Hid (Right xs) := h1
      cases h2 : pathB p with
      | false =>
        have H2 : Hid _ := h2
        clear h1 h2 hn hr e0
        go_enter Try.func25, Try.ntmps25
        go_wp2_with (first
          | (go_at_call 16; refine (CR.out _ true (Below.refl _ _) ⟨fun _ => H1.out, fun _ => rfl⟩).mono ?_; rintro e w1 ⟨rfl, c1⟩; have cc : Hid _ := c1; clear c1)
          | (go_at_call 37; refine (refPath_val p false _ HP.out H2.out).mono ?_; rintro e w2 ⟨rfl, c2⟩; have cc2 : Hid _ := bel_tr cc.out c2; clear c2))
        go_ret2
        exact ⟨TwoR.no _ _ rfl, cc2.out⟩
      | true =>
        have H2 : Hid _ := h2
        have h3 : p = rootP := by
          by_cases h3 : p = rootP
          · exact h3
          · exact absurd ⟨h1, h2, h3⟩ hn
        rw [decide_eq_true h3] at e0
        clear h1 h2 h3 hn hr
        go_enter Try.func25, Try.ntmps25
        go_wp2_with (first
          | (go_at_call 16; refine (CR.out _ true (Below.refl _ _) ⟨fun _ => H1.out, fun _ => rfl⟩).mono ?_; rintro e w1 ⟨rfl, c1⟩; have cc : Hid _ := c1; clear c1)
          | (go_at_call 37; refine (refPath_val p true _ HP.out H2.out).mono ?_; rintro e w2 ⟨rfl, c2⟩; have cc2 : Hid _ := bel_tr cc.out c2; clear c2))
        go_ret2
        exact ⟨TwoR.no _ _ rfl, cc2.out⟩
    · have H1 : Hid (¬ Right xs) := h1
      obtain ⟨v, hv⟩ : ∃ v, pathB p = v := ⟨_, rfl⟩
      have H2 : Hid _ := hv
      clear h1 hn hr hv e0
      go_enter Try.func25, Try.ntmps25
      go_wp2_with (first
        | (go_at_call 16; refine (CR.out _ false (Below.refl _ _) ⟨fun e => (by cases e), fun e => absurd e H1.out⟩).mono ?_; rintro e w1 ⟨rfl, c1⟩; have cc : Hid _ := c1; clear c1)
        | (go_at_call 37; refine (refPath_val p v _ HP.out H2.out).mono ?_; rintro e w2 ⟨rfl, c2⟩; have cc2 : Hid _ := bel_tr cc.out c2; clear c2))
      go_ret2
      exact ⟨TwoR.no _ _ rfl, cc2.out⟩
  | none h1 h2 h3 h4 =>
    have hr : remL xs p 5 = [] := rfl
    rw [hr]
    have H1 : Hid (Right xs) := h1
    have H2 : Hid _ := h2
    have H4 : Hid (findI xs p = -1) := find_neg h4
    rw [decide_eq_false h3] at e0
    clear h1 h2 h3 h4 hr
    go_enter Try.func25, Try.ntmps25
    go_wp2_with (first
      | (go_at_call 16; refine (CR.out _ true (Below.refl _ _) ⟨fun _ => H1.out, fun _ => rfl⟩).mono ?_; rintro e w1 ⟨rfl, c1⟩; have cc : Hid _ := c1; clear c1)
      | (go_at_call 37; refine (refPath_val p true _ HP.out H2.out).mono ?_; rintro e w2 ⟨rfl, c2⟩; have cc2 : Hid _ := bel_tr cc.out c2; clear c2)
      | (go_at_call 18; refine (CF.out _ _ cc2.out H4.out).mono ?_; rintro e w3 ⟨rfl, c3⟩; have cc3 : Hid (Below w.heap.size w w3) := bel_tr cc2.out c3; clear c3))
    go_ret2
    exact ⟨TwoR.no _ _ rfl, cc3.out⟩
  | ok h1 h2 h3 h4 =>
    have hr : remL xs p 0 = leftL xs p := rfl
    rw [hr]
    have H1 : Hid (Right xs) := h1
    have H2 : Hid _ := h2
    obtain ⟨k0, h5, h6⟩ := find_pos h4
    have H4 : Hid (findI xs p = (k0 : Int)) := h5
    rw [decide_eq_false h3] at e0
    have hn60 : n ≤ 60 := by rw [← HLEN.out]; exact h1.few
    obtain ⟨ti, hi1, hi2, hi3, hi4⟩ := ndRow
    obtain ⟨b, off, ps, k1, k2, k3⟩ := HNL.out.ex
    have HK : Hid (Nds w a b off ps) := k3
    have HPL : Hid (ps.length = n) := by show ps.length = n; rw [← k2, ← k1, List.length_map]
    have HM : Hid (ps.map (·.1) = xs) := k1
    have H8 : Hid (∀ x ∈ xs, x.bs.length ≤ 8) := h1.few8
    clear h1 h2 h3 h4 h5 hr k1 k2 k3
    go_enter Try.func25, Try.ntmps25
    go_wp2_with (first
      | (go_at_call 16; refine (CR.out _ true (Below.refl _ _) ⟨fun _ => H1.out, fun _ => rfl⟩).mono ?_; rintro e w1 ⟨rfl, c1⟩; have cc : Hid _ := c1; clear c1)
      | (go_at_call 37; refine (refPath_val p true _ HP.out H2.out).mono ?_; rintro e w2 ⟨rfl, c2⟩; have cc2 : Hid _ := bel_tr cc.out c2; clear c2)
      | (go_at_call 18; refine (CF.out _ _ cc2.out H4.out).mono ?_; rintro e w3 ⟨rfl, c3⟩; have cc3 : Hid (Below w.heap.size w w3) := bel_tr cc2.out c3; clear c3))
    clear CR CF
    go_loopw [8, 9, 10] (fun v6 v7 _ wr => ∃ (i : Nat) (fa : Option Addr) (fn fc : Nat) (qs : List NR) (g : Option Nat), i ≤ n ∧ v7 = .int .i64 i ∧ v6 = .slice fa fn fc ∧ Lot w.heap.size wr fa fn fc qs g ∧ qs.map (·.1) = (xs.take i).filter (fun x => !underB p x.path) ∧ Below w.heap.size w wr) (fun _ v7 _ _ => n - (intOf v7).toNat)
    case atStart => exact ⟨0, none, 0, 0, [], none, by omega, rfl, rfl, ⟨.nil rfl rfl rfl, rfl, fun x hx => (by cases hx), fun x hx => (by cases hx)⟩, rfl, cc3.out⟩
    case round =>
      obtain ⟨i, fa, fn, fc, qs, g, hi, rfl, rfl, hL, hq, hb⟩ := hrel
      have HB : Hid (Below w.heap.size w wr) := hb
      have HL : Hid (Lot w.heap.size wr fa fn fc qs g) := hL
      have HQ : Hid (qs.map (·.1) = (xs.take i).filter (fun x => !underB p x.path)) := hq
      by_cases hlt : i < n
      · have hip : i < ps.length := by rw [HPL.out]; exact hlt
        have hix : i < xs.length := by rw [← HM.out, List.length_map]; exact hip
        have hK := HK.out.below hb
        obtain ⟨e0, e1, e2, e3, e4⟩ := hK.at hip
        obtain rfl := hK.addr (by omega)
        have hok := hK.ok _ (List.getElem_mem hip)
        have exi : ps[i].1 = xs[i] := by
          have := HM.out
          subst this
          simp
        have hFT := filter_take (fun x => !underB p x.path) xs i hix
        rw [← exi] at hFT
        have HFT : Hid _ := hFT
        have h8i : ps[i].2.n ≤ 8 := by
          rw [← hok.bs.len, exi]
          exact H8.out _ (List.getElem_mem hix)
        have hfn : fn ≤ 60 := by
          have h1 := hL.len
          have h2 : qs.length = ((xs.take i).filter (fun x => !underB p x.path)).length := by rw [← hq, List.length_map]
          have h3 := List.length_filter_le (fun x => !underB p x.path) (xs.take i)
          rw [List.length_take] at h3
          omega
        have HSM : Hid (ps[i].1.path.size ≤ maxLen) := hok.small
        have CC : Hid (∀ W, Below wr.heap.size wr W → Calls Try.prog 45 #[ndV ps[i]] W fun e w' => CopyR W.heap.size ps[i].1 e w' ∧ Below W.heap.size W w') := fun W hb => refCopy_val ps[i] W (hok.below hb) (by omega)
        clear hb hL hq hok exi hFT hix h8i hK
        generalize ps[i] = x at *
        obtain ⟨⟨xp, d, q, bs, wb⟩, ⟨sa, sn, sc⟩⟩ := x
        unfold ndV at CC
        simp only at e0 e1 e2 e3 e4 CC HFT HSM
        cases hf : underB p xp with
        | true =>
          have HF : Hid _ := hf
          clear hf
          go_wp2_with (go_at_call 56; refine (refUnder_val p xp true _ HP.out HSM.out HF.out).mono ?_; rintro e w1 ⟨rfl, c1⟩; have B1 : Hid (Below wr.heap.size wr w1) := c1; clear c1)
          go_roundw
          case rel => exact ⟨i + 1, fa, fn, fc, qs, g, by omega, by go_num, rfl, HL.out.below B1.out, by rw [HFT.out, HF.out, HQ.out]; simp, HB.out.trans (B1.out.mono HB.out.size)⟩
          case measure => simp [intOf]; omega
        | false =>
          have HF : Hid _ := hf
          clear hf
          go_wp2_with (first
            | (go_at_call 56; refine (refUnder_val p xp false _ HP.out HSM.out HF.out).mono ?_; rintro e w1 ⟨rfl, c1⟩; have B1 : Hid (Below wr.heap.size wr w1) := c1; have y0 := bel_cell c1 e0; have y1 := bel_cell c1 e1; have y2 := bel_cell c1 e2; have y3 := bel_cell c1 e3; have y4 := bel_cell c1 e4; clear c1)
            | (go_at_call 45; refine (CC.out _ B1.out).mono ?_; rintro e w2 ⟨⟨s, rfl, hF⟩, c2⟩; have HF2 : Hid (Free w1.heap.size w2 (⟨xp, d, q, bs, wb⟩, s)) := hF; have B2 : Hid (Below w1.heap.size w1 w2) := c2; clear hF c2; unfold ndV; simp only)
            | (at_builtin; refine wpList_append_cel _ rfl _ _ 22 22 rfl 25 ti _ 5 64 Try.underlying22 hi1 hi2 hi3 hi4 rfl (O := fun k => w.heap.size ≤ k) _ fn _ g rfl ((HL.out.below (bel_tr (bel_tr B1.out B2.out) (bel_al _ _))).cel) _ 1 (rowC ndC [(⟨xp, d, q, bs, wb⟩, s)]) rfl (src_new5 w2 (⟨xp, d, q, bs, wb⟩, s)) (by unfold maxLen; omega) (by omega) ?_; intro a5 c5 w5 g5 hC5 hS5 hf5; have HX : Hid _ := (HL.out.below B1.out).push (Nat.le_trans HB.out.size B1.out.size) HF2.out B2.out hC5 hS5 hf5; clear hC5 hS5 hf5))
          go_roundw
          case rel => exact ⟨i + 1, a5, fn + 1, c5, qs ++ [(⟨xp, d, q, bs, wb⟩, s)], g5, by omega, by go_num, rfl, HX.out.1, by rw [List.map_append, HFT.out, HF.out, HQ.out]; simp, (HB.out.trans (B1.out.mono HB.out.size)).trans HX.out.2⟩
          case measure => simp [intOf]; omega
      · obtain rfl : i = n := by omega
        have hgd : decide ((i : Int) < (i : Int)) = false := decide_eq_false (by omega)
        have HX : Hid (LX w.heap.size wr fa fn fc (leftL xs p)) := ⟨qs, g, by rw [hq, List.take_of_length_le (by rw [← HM.out, List.length_map, HPL.out]; omega)]; rfl, hL⟩
        clear hb hL hq hlt
        go_wp2
        go_ret2
        exact ⟨⟨fa, fn, fc, rfl, HX.out⟩, HB.out⟩


end Go.Proofs.Ytdcmhbodjmajcaa
