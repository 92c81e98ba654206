/- The contract of tabulariumref07.Move. -/
import Derived.Test.YtdcmhbodjmajcaaTreeR8
namespace Go.Proofs.Ytdcmhbodjmajcaa
open Go.RowKit

theorem bel_set {w w2 : World} (h : Below w.heap.size w w2) (b j : Nat) (v : Value) (hb : w.heap.size ≤ b) : Below w.heap.size w (w2.setCell ⟨b, j, none⟩ v) :=
  h.trans ((Stay.setCell (O := fun k => k = b) w2 ⟨b, j, none⟩ v rfl).below h.size (fun k hk => by omega))
theorem bel_frozen {w w2 : World} {cs : Array Value} {t : TypeId} (hb : Below (w.alloc (.cells cs t)).heap.size (w.alloc (.cells cs t)) w2) (j : Nat) : w2.frozen? ⟨w.heap.size, j, none⟩ = false :=
  (World.frozen?_of_block (a := ⟨w.heap.size, j, none⟩) (hb.block w.heap.size (by simp))).trans (World.frozen?_alloc_new w _ _ j)
theorem froz_bel {w w2 : World} {a : Addr} {v : Value} (hb : Below w.heap.size w w2) (h : w.cell? a = some v) (h2 : w.frozen? a = false) : w2.frozen? a = false :=
  (World.frozen?_of_block (a := a) (hb.block _ (World.block_lt_of_cell? _ _ h))).trans h2

theorem put_next {base : Nat} {xs : NS} {f t : ByteArray} (hR : Right xs) (hto : ∀ x ∈ xs, underB t x.path = true → x.path = t) (i : Nat) (hi : i < xs.length) (hne : xs[i].path ≠ t) (hpre : ∀ x ∈ xs.take (i + 1), underB f x.path = true → (moveX x.path f t).2 = 0)
    {W : World} {fa : Option Addr} {m fc : Nat} (hX : LX base W fa m fc (sortN (preL xs f t i))) (hB : base ≤ W.heap.size) (hi60 : i ≤ 60) (hm0 : m = 0 → fa = none ∧ fc = 0) (s : RS) (hok : NdOk W (mvX f t xs[i], s)) (h8 : s.n ≤ 8) :
    Calls Try.prog 51 #[.slice fa m fc, ndV (mvX f t xs[i], s)] W fun e w' => ListR base (sortN (preL xs f t (i + 1))) (m + 1) e w' ∧ Below W.heap.size W w' := by
  have hA := pre_apart hR hto (i + 1) hpre
  rw [pre_next hi hne] at hA ⊢
  obtain ⟨h1, h2, h3⟩ := apart_last hA
  rw [← h3]
  refine refPut_val hX hB ?_ hm0 (mvX f t xs[i], s) hok h8 h2 h1
  have := hX.len
  rw [sortN_len] at this
  have := pre_len xs f t i
  omega

set_option maxRecDepth 100000 in
set_option maxHeartbeats 4000000 in
theorem refMove_good {a : Option Addr} {n c : Nat} {xs : NS} {w : World} (h : NL w a n xs) (f t : ByteArray) (hf : f.size ≤ maxLen) (ht : t.size ≤ maxLen) (E : Int) (hR : RefM xs f t 0) (hE : MovE xs f t E) (h04 : E = 0 ∨ E = 4) :
    Calls Try.prog 27 #[.slice a n c, .string f, .string t] w fun e w' => TwoR w.heap.size (movA xs f t E) E e w' ∧ Below w.heap.size w w' := by
  have CR : Hid (∀ W u, Below w.heap.size w W → (u = true ↔ Right xs) → Calls Try.prog 16 #[.slice a n c] W fun e w' => e = .returned (.bool u) ∧ Below W.heap.size W w') := fun W u hb hu => refRight_val (h.below hb) u hu
  have CF : Hid (∀ W p I, Below w.heap.size w W → findI xs p = I → Calls Try.prog 18 #[.slice a n c, .string p] W fun e w' => e = .returned (.int .i64 I) ∧ Below W.heap.size W w') := fun W p I hb hI => refFind_val (h.below hb) p I hI
  have CP : Hid (∀ W F, Below w.heap.size w W → dirE xs (parD t) = F → Calls Try.prog 50 #[.slice a n c, .string t] W fun e w' => e = .returned (.int .i64 F) ∧ Below W.heap.size W w') := fun W F hb hF => refPar_val (h.below hb) t ht F hF
  have HF : Hid (f.size ≤ maxLen) := hf
  have HT : Hid (t.size ≤ maxLen) := ht
  have HLEN : Hid (xs.length = n) := by obtain ⟨_, _, _, _, k2, _⟩ := h.ex; exact k2
  have HNL : Hid (NL w a n xs) := h
  have hlid := h.lid
  unfold maxLen at hlid
  have e0 := root_eq f
  have e1 := root_eq t
  clear h hf ht
  have H04 : Hid (E = 0 ∨ E = 4) := h04
  have hst := run_store_str
  have HLONG : Hid (E = 4 → ∃ x ∈ xs, underB f x.path = true ∧ (moveX x.path f t).2 ≠ 0) := fun e => by
    subst e
    cases hE with
    | par e h1 h2 h3 h4 h5 h6 h7 h8 h9 =>
      cases hR with
      | par e h1 h2 h3 h4 h5 h6 h7 h8' h9 => exact absurd rfl h9
      | ok h1 h2 h3 h4 h5 h6 h7 h8' h9 => rw [h8'] at h8; cases h8
    | long h1 h2 h3 h4 h5 h6 h7 h8 h9 h10 => exact h10
  have HOK : Hid (E = 0 → ∀ x ∈ xs, underB f x.path = true → (moveX x.path f t).2 = 0) := fun e => by
    subst e
    exact (mov_of hE).okm
  clear hE h04
  cases hR with
  | par e h1 h2 h3 h4 h5 h6 h7 h8 h9 => exact absurd rfl h9
  | ok h1 h2 h3 h4 h5 h6 h7 h8 h9 =>
    have H1 : Hid (Right xs) := h1
    have HV1 : Hid _ := h2
    have HV2 : Hid _ := h4
    have HV3 : Hid _ := h6
    rw [decide_eq_false h3] at e0
    rw [decide_eq_false h5] at e1
    have HPP : Hid (dirE xs (parD t) = 0) := h8
    have HTO : Hid (∀ x ∈ xs, underB t x.path = true → x.path = t) := to_only h1 h9
    have HERR : Hid (∀ x ∈ xs, underB f x.path = true → (moveX x.path f t).2 ≠ 0 → (moveX x.path f t).2 = 4) := fun x _ hu hne => move_err hu (by simpa [pathB] using h4) hne
    have hn60 : n ≤ 60 := by rw [← HLEN.out]; exact h1.few
    have hn0 : 0 < n := by rw [← HLEN.out]; exact h1.pos
    obtain ⟨b, off, ps, k1, k2, k3⟩ := HNL.out.ex
    have HPL : Hid (ps.length = n) := by show ps.length = n; rw [← k2, ← k1, List.length_map]
    have HM : Hid (ps.map (·.1) = xs) := k1
    obtain rfl := k3.addr (by have := HPL.out; omega)
    have HK : Hid (Nds w (some ⟨b, off, none⟩) b off ps) := k3
    have HNIL : Hid (∀ W, LX w.heap.size W none 0 0 (sortN (preL xs f t 0))) := fun W => by
      have h0 : sortN (preL xs f t 0) = [] := List.length_eq_zero_iff.1 (by rw [sortN_len]; rfl)
      rw [h0]
      exact LX.no _ _
    rcases findI_cases xs f with ⟨f1, _, _⟩ | ⟨i0, f1, f2, hi0, _⟩
    · exact absurd f1 h7
    have HFF : Hid (findI xs f = (i0 : Int)) := f2
    have hin : i0 < n := by rw [← HLEN.out]; exact hi0
    rcases findI_cases xs t with ⟨g1, g2, _⟩ | ⟨k, g1, g2, hk, _⟩
    · have HFT : Hid (findI xs t = -1) := g2
      clear h1 h2 h3 h4 h5 h6 h7 h8 h9 f1 f2 g1 g2 k1 k2 k3
      have M1 : True := trivial
      have M2 : True := trivial
      go_enter Try.func27, Try.ntmps27
      go_wp2_with (first
        | (go_at_call 16; refine (CR.out _ true (Below.refl _ _) ⟨fun _ => H1.out, fun _ => rfl⟩).mono ?_; rintro e w1 ⟨rfl, c1⟩; have cc : Hid _ := c1; clear c1)
        | (go_at_call 37; clear M1; refine (refPath_val f true _ HF.out HV1.out).mono ?_; rintro e w2 ⟨rfl, c2⟩; have cc2 : Hid _ := bel_tr cc.out c2; clear c2)
        | (go_at_call 37; refine (refPath_val t true _ HT.out HV2.out).mono ?_; rintro e w3 ⟨rfl, c3⟩; have cc3 : Hid _ := bel_tr cc2.out c3; clear c3)
        | (go_at_call 56; refine (refUnder_val f t false _ HF.out HT.out HV3.out).mono ?_; rintro e w4 ⟨rfl, c4⟩; have cc4 : Hid (Below w.heap.size w w4) := bel_tr cc3.out c4; clear c4)
        | (go_at_call 18; clear M2; refine (CF.out _ f _ cc4.out HFF.out).mono ?_; rintro e w5 ⟨rfl, c5⟩; have cc5 : Hid (Below w.heap.size w w5) := bel_tr cc4.out c5; clear c5)
        | (go_at_call 50; refine (CP.out _ _ cc5.out HPP.out).mono ?_; rintro e w6 ⟨rfl, c6⟩; have cc6 : Hid (Below w.heap.size w w6) := bel_tr cc5.out c6; clear c6)
        | (go_at_call 18; refine (CF.out _ t _ cc6.out HFT.out).mono ?_; rintro e w7 ⟨rfl, c7⟩; have cc7 : Hid (Below w.heap.size w w7) := bel_tr cc6.out c7; skip; clear c7))
      clear CR CF CP
      go_loopw [15, 16, 17, 18, 19, 20] (fun v19 v20 _ _ _ _ wr => ∃ (i : Nat) (fa : Option Addr) (m fc : Nat), i ≤ n ∧ v20 = .int .i64 i ∧ v19 = .slice fa m fc ∧ LX w.heap.size wr fa m fc (sortN (preL xs f t i)) ∧ (m = 0 → fa = none ∧ fc = 0) ∧ (∀ x ∈ xs.take i, underB f x.path = true → (moveX x.path f t).2 = 0) ∧ Below w.heap.size w wr) (fun _ v20 _ _ _ _ _ => n - (intOf v20).toNat)
      case atStart => exact ⟨0, none, 0, 0, by omega, rfl, rfl, HNIL.out _, fun _ => ⟨rfl, rfl⟩, fun x hx => by simp at hx, cc7.out⟩
      case round =>
        obtain ⟨i, fa, m, fc, hi, rfl, rfl, hX, hm0, hpre, hb⟩ := hrel
        have HB : Hid (Below w.heap.size w wr) := hb
        have HX : Hid (LX w.heap.size wr fa m fc (sortN (preL xs f t i))) := hX
        have HM0 : Hid (m = 0 → fa = none ∧ fc = 0) := hm0
        have HPR : Hid (∀ x ∈ xs.take i, underB f x.path = true → (moveX x.path f t).2 = 0) := hpre
        by_cases hlt : i < n
        · have hip : i < ps.length := by rw [HPL.out]; exact hlt
          have hix : i < xs.length := by rw [HLEN.out]; exact hlt
          have hK := HK.out.below hb
          obtain ⟨e0, e1, e2, e3, e4⟩ := hK.at hip
          have hok := hK.ok _ (List.getElem_mem hip)
          have exi : ps[i].1 = xs[i] := by
            have := HM.out
            subst this
            simp
          have h8i : ps[i].2.n ≤ 8 := by
            rw [← hok.bs.len, exi]
            exact H1.out.few8 _ (List.getElem_mem hix)
          have HSM : Hid (ps[i].1.path.size ≤ maxLen) := hok.small
          have HMEM : Hid (ps[i].1 ∈ xs) := by show ps[i].1 ∈ xs; rw [exi]; exact List.getElem_mem hix
          have HPN : Hid ((underB f ps[i].1.path = true → (moveX ps[i].1.path f t).2 = 0) → ∀ x ∈ xs.take (i + 1), underB f x.path = true → (moveX x.path f t).2 = 0) := fun h x hx hu => by
            rw [List.take_succ_eq_append_getElem hix] at hx
            rcases List.mem_append.1 hx with hx | hx
            · exact HPR.out x hx hu
            · rw [List.mem_singleton.1 hx, ← exi] at hu ⊢
              exact h hu
          have hik := find_eq (right_asc H1.out).apart t hix
          rw [HFT.out, ← exi] at hik
          have HSK : Hid (ps[i].1.path = t → preL xs f t (i + 1) = preL xs f t i) := fun h => pre_skip hix (by rw [← exi]; exact h)
          have HN : Hid (∀ W, Below wr.heap.size wr W → ps[i].1.path ≠ t → underB f ps[i].1.path = false → Calls Try.prog 51 #[.slice fa m fc, ndV ps[i]] W fun e w' => ListR w.heap.size (sortN (preL xs f t (i + 1))) (m + 1) e w' ∧ Below W.heap.size W w') := fun W hW hne hu => by
            have hmv : mvX f t xs[i] = ps[i].1 := by rw [mvX_no (by rw [← exi]; exact hu), exi]
            have h5 := put_next (f := f) (t := t) H1.out HTO.out i hix (by rw [← exi]; exact hne) (HPN.out (fun e => by rw [hu] at e; cases e)) (HX.out.below hW) (Nat.le_trans HB.out.size hW.size) (by omega) HM0.out ps[i].2 (by rw [hmv]; exact hok.below hW) h8i
            rw [hmv] at h5
            exact h5
          have HY : Hid (∀ W T, Below wr.heap.size wr W → ps[i].1.path ≠ t → underB f ps[i].1.path = true → moveX ps[i].1.path f t = (T, 0) → Calls Try.prog 51 #[.slice fa m fc, ndV (⟨T, ps[i].1.dir, ps[i].1.quota, ps[i].1.bs, ps[i].1.wr⟩, ps[i].2)] W fun e w' => ListR w.heap.size (sortN (preL xs f t (i + 1))) (m + 1) e w' ∧ Below W.heap.size W w') := fun W T hW hne hu hT => by
            have hmv : mvX f t xs[i] = ⟨T, ps[i].1.dir, ps[i].1.quota, ps[i].1.bs, ps[i].1.wr⟩ := by
              rw [mvX_yes (by rw [← exi]; exact hu), ← exi]
              unfold movN
              rw [hT]
            have h5 := put_next (f := f) (t := t) H1.out HTO.out i hix (by rw [← exi]; exact hne) (HPN.out (fun _ => by rw [hT])) (HX.out.below hW) (Nat.le_trans HB.out.size hW.size) (by omega) HM0.out ps[i].2 (by rw [hmv]; exact ⟨by show T.size ≤ maxLen; have := moveX_small ps[i].1.path f t; rw [hT] at this; exact this, (hok.below hW).bs⟩) h8i
            rw [hmv] at h5
            exact h5
          clear hb hX hm0 hpre hok exi hix h8i hK
          generalize ps[i] = x at *
          obtain ⟨⟨xp, d, q, bs, wb⟩, ⟨sa, sn, sc⟩⟩ := x
          unfold ndV at HN HY
          simp only at e0 e1 e2 e3 e4 HSM HMEM HPN hik HSK HN HY
          by_cases hpt : xp = t
          · rw [decide_eq_true hpt] at hik
            exact absurd (beq_iff_eq.1 hik) (by omega)
          · rw [decide_eq_false hpt] at hik
            have HPT : Hid (xp ≠ t) := hpt
            clear hpt
            cases hu : underB f xp with
            | false =>
              have HU : Hid _ := hu
              clear hu
              go_wp2_with (first
                | (go_at_call 56; refine (refUnder_val f xp false _ HF.out HSM.out HU.out).mono ?_; rintro e w1 ⟨rfl, c1⟩; have B1 : Hid (Below wr.heap.size wr w1) := bel_tr (bel_al _ _) c1; have y0 := bel_cell c1 (World.cell?_alloc_new wr _ _ 0); have y1 := bel_cell c1 (World.cell?_alloc_new wr _ _ 1); have y2 := bel_cell c1 (World.cell?_alloc_new wr _ _ 2); have y3 := bel_cell c1 (World.cell?_alloc_new wr _ _ 3); have y4 := bel_cell c1 (World.cell?_alloc_new wr _ _ 4); clear c1)
                | (go_at_call 51; refine (HN.out _ B1.out HPT.out HU.out).mono ?_; rintro e w2 ⟨⟨a2, c2, rfl, hX2⟩, c2b⟩; have HX2 : Hid _ := hX2; have B2 : Hid (Below wr.heap.size wr w2) := bel_tr B1.out c2b; clear hX2 c2b))
              go_roundw
              case rel => exact ⟨i + 1, a2, m + 1, c2, by omega, by go_num, rfl, HX2.out, fun e => by omega, HPN.out (fun e => by rw [HU.out] at e; cases e), HB.out.trans (B2.out.mono HB.out.size)⟩
              case measure => simp [intOf]; omega
            | true =>
              have HU : Hid _ := hu
              clear hu
              obtain ⟨T, F, hT⟩ : ∃ T F, moveX xp f t = (T, F) := ⟨_, _, rfl⟩
              have HT2 : Hid _ := hT
              by_cases hF0 : F = 0
              · subst hF0
                clear hT
                go_wp2_with (first
                  | (go_at_call 56; refine (refUnder_val f xp true _ HF.out HSM.out HU.out).mono ?_; rintro e w1 ⟨rfl, c1⟩; have B1 : Hid (Below wr.heap.size wr w1) := bel_tr (bel_al _ _) c1; have HFZ : Hid (w1.frozen? ⟨wr.heap.size, 0, none⟩ = false) := bel_frozen c1 0; have y0 := bel_cell c1 (World.cell?_alloc_new wr _ _ 0); have y1 := bel_cell c1 (World.cell?_alloc_new wr _ _ 1); have y2 := bel_cell c1 (World.cell?_alloc_new wr _ _ 2); have y3 := bel_cell c1 (World.cell?_alloc_new wr _ _ 3); have y4 := bel_cell c1 (World.cell?_alloc_new wr _ _ 4); clear c1)
                  | (go_at_call 61; refine (refMove_val xp f t T 0 _ HSM.out HF.out HT.out HT2.out).mono ?_; rintro e w2 ⟨rfl, c2⟩; have B2 : Hid (Below wr.heap.size wr w2) := bel_tr B1.out c2; have zf := froz_bel c2 y0 HFZ.out; have z0 := bel_cell c2 y0; have z1 := bel_cell c2 y1; have z2 := bel_cell c2 y2; have z3 := bel_cell c2 y3; have z4 := bel_cell c2 y4; clear c2)
                  | (go_at_call 51; refine (HY.out _ T (bel_set B2.out wr.heap.size 0 _ (Nat.le_refl _)) HPT.out HU.out HT2.out).mono ?_; rintro e w3 ⟨⟨a2, c2, rfl, hX2⟩, c2b⟩; have HX2 : Hid _ := hX2; have B3 : Hid (Below wr.heap.size wr w3) := bel_tr (bel_set B2.out wr.heap.size 0 _ (Nat.le_refl _)) c2b; clear hX2 c2b))
                go_roundw
                case rel => exact ⟨i + 1, a2, m + 1, c2, by omega, by go_num, rfl, HX2.out, fun e => by omega, HPN.out (fun _ => by rw [HT2.out]), HB.out.trans (B3.out.mono HB.out.size)⟩
                case measure => simp [intOf]; omega
              · obtain rfl : F = 4 := by
                  have := HERR.out _ HMEM.out HU.out (by rw [hT]; exact hF0)
                  rw [hT] at this; exact this
                obtain rfl : E = 4 := by
                  rcases H04.out with e | e
                  · have := HOK.out e _ HMEM.out HU.out
                    rw [hT] at this; cases this
                  · exact e
                have hr : Hid (movA xs f t 4 = []) := rfl
                clear hT hF0
                go_wp2_with (first
                  | (go_at_call 56; refine (refUnder_val f xp true _ HF.out HSM.out HU.out).mono ?_; rintro e w1 ⟨rfl, c1⟩; have B1 : Hid (Below wr.heap.size wr w1) := bel_tr (bel_al _ _) c1; have y0 := bel_cell c1 (World.cell?_alloc_new wr _ _ 0); have y1 := bel_cell c1 (World.cell?_alloc_new wr _ _ 1); have y2 := bel_cell c1 (World.cell?_alloc_new wr _ _ 2); have y3 := bel_cell c1 (World.cell?_alloc_new wr _ _ 3); have y4 := bel_cell c1 (World.cell?_alloc_new wr _ _ 4); clear c1)
                  | (go_at_call 61; refine (refMove_val xp f t T 4 _ HSM.out HF.out HT.out HT2.out).mono ?_; rintro e w2 ⟨rfl, c2⟩; have B2 : Hid (Below wr.heap.size wr w2) := bel_tr B1.out c2; clear c2))
                go_ret2
                exact ⟨by rw [hr.out]; exact TwoR.no _ _ rfl, HB.out.trans (B2.out.mono HB.out.size)⟩
        · obtain rfl : i = n := by omega
          have hgd : decide ((i : Int) < (i : Int)) = false := decide_eq_false (by omega)
          obtain rfl : E = 0 := by
            rcases H04.out with e | e
            · exact e
            · obtain ⟨x, hx, hu, hne⟩ := HLONG.out e
              exact absurd (hpre x (by rw [List.take_of_length_le (by rw [HLEN.out]; omega)]; exact hx) hu) hne
          have HXE : Hid (LX w.heap.size wr fa m fc (movA xs f t 0)) := by
            show LX w.heap.size wr fa m fc (movL xs f t)
            have h5 := HX.out
            rw [pre_all H1.out HTO.out HV3.out (HOK.out rfl) i (by rw [HLEN.out]; omega)] at h5
            exact h5
          clear hb hX hpre hlt
          go_wp2
          go_ret2
          exact ⟨⟨fa, m, fc, rfl, HXE.out⟩, HB.out⟩
    · have HFT : Hid (findI xs t = (k : Int)) := g2
      have hkn : k < n := by rw [← HLEN.out]; exact hk
      have h10 := h9 (by rw [g1]; exact fun e => nomatch e)
      rw [isDir_at f1 hi0, isDir_at g1 hk, Bool.or_eq_false_iff] at h10
      have HD1 : Hid (w.cell? ⟨b, off + i0 * 5 + 1, none⟩ = some (.bool xs[i0].dir)) := HNL.out.dir rfl hi0
      have HD2 : Hid (w.cell? ⟨b, off + k * 5 + 1, none⟩ = some (.bool xs[k].dir)) := HNL.out.dir rfl hk
      rw [h10.1] at HD1
      rw [h10.2] at HD2
      clear h1 h2 h3 h4 h5 h6 h7 h8 h9 f1 f2 g1 g2 k1 k2 k3 h10
      have M1 : True := trivial
      have M2 : True := trivial
      go_enter Try.func27, Try.ntmps27
      go_wp2_with (first
        | (go_at_call 16; refine (CR.out _ true (Below.refl _ _) ⟨fun _ => H1.out, fun _ => rfl⟩).mono ?_; rintro e w1 ⟨rfl, c1⟩; have cc : Hid _ := c1; clear c1)
        | (go_at_call 37; clear M1; refine (refPath_val f true _ HF.out HV1.out).mono ?_; rintro e w2 ⟨rfl, c2⟩; have cc2 : Hid _ := bel_tr cc.out c2; clear c2)
        | (go_at_call 37; refine (refPath_val t true _ HT.out HV2.out).mono ?_; rintro e w3 ⟨rfl, c3⟩; have cc3 : Hid _ := bel_tr cc2.out c3; clear c3)
        | (go_at_call 56; refine (refUnder_val f t false _ HF.out HT.out HV3.out).mono ?_; rintro e w4 ⟨rfl, c4⟩; have cc4 : Hid (Below w.heap.size w w4) := bel_tr cc3.out c4; clear c4)
        | (go_at_call 18; clear M2; refine (CF.out _ f _ cc4.out HFF.out).mono ?_; rintro e w5 ⟨rfl, c5⟩; have cc5 : Hid (Below w.heap.size w w5) := bel_tr cc4.out c5; clear c5)
        | (go_at_call 50; refine (CP.out _ _ cc5.out HPP.out).mono ?_; rintro e w6 ⟨rfl, c6⟩; have cc6 : Hid (Below w.heap.size w w6) := bel_tr cc5.out c6; clear c6)
        | (go_at_call 18; refine (CF.out _ t _ cc6.out HFT.out).mono ?_; rintro e w7 ⟨rfl, c7⟩; have cc7 : Hid (Below w.heap.size w w7) := bel_tr cc6.out c7; have dc1 := bel_cell cc7.out HD1.out; have dc2 := bel_cell cc7.out HD2.out; clear c7))
      clear dc1 dc2
      clear CR CF CP
      go_loopw [15, 16, 17, 18, 19, 20] (fun v19 v20 _ _ _ _ wr => ∃ (i : Nat) (fa : Option Addr) (m fc : Nat), i ≤ n ∧ v20 = .int .i64 i ∧ v19 = .slice fa m fc ∧ LX w.heap.size wr fa m fc (sortN (preL xs f t i)) ∧ (m = 0 → fa = none ∧ fc = 0) ∧ (∀ x ∈ xs.take i, underB f x.path = true → (moveX x.path f t).2 = 0) ∧ Below w.heap.size w wr) (fun _ v20 _ _ _ _ _ => n - (intOf v20).toNat)
      case atStart => exact ⟨0, none, 0, 0, by omega, rfl, rfl, HNIL.out _, fun _ => ⟨rfl, rfl⟩, fun x hx => by simp at hx, cc7.out⟩
      case round =>
        obtain ⟨i, fa, m, fc, hi, rfl, rfl, hX, hm0, hpre, hb⟩ := hrel
        have HB : Hid (Below w.heap.size w wr) := hb
        have HX : Hid (LX w.heap.size wr fa m fc (sortN (preL xs f t i))) := hX
        have HM0 : Hid (m = 0 → fa = none ∧ fc = 0) := hm0
        have HPR : Hid (∀ x ∈ xs.take i, underB f x.path = true → (moveX x.path f t).2 = 0) := hpre
        by_cases hlt : i < n
        · have hip : i < ps.length := by rw [HPL.out]; exact hlt
          have hix : i < xs.length := by rw [HLEN.out]; exact hlt
          have hK := HK.out.below hb
          obtain ⟨e0, e1, e2, e3, e4⟩ := hK.at hip
          have hok := hK.ok _ (List.getElem_mem hip)
          have exi : ps[i].1 = xs[i] := by
            have := HM.out
            subst this
            simp
          have h8i : ps[i].2.n ≤ 8 := by
            rw [← hok.bs.len, exi]
            exact H1.out.few8 _ (List.getElem_mem hix)
          have HSM : Hid (ps[i].1.path.size ≤ maxLen) := hok.small
          have HMEM : Hid (ps[i].1 ∈ xs) := by show ps[i].1 ∈ xs; rw [exi]; exact List.getElem_mem hix
          have HPN : Hid ((underB f ps[i].1.path = true → (moveX ps[i].1.path f t).2 = 0) → ∀ x ∈ xs.take (i + 1), underB f x.path = true → (moveX x.path f t).2 = 0) := fun h x hx hu => by
            rw [List.take_succ_eq_append_getElem hix] at hx
            rcases List.mem_append.1 hx with hx | hx
            · exact HPR.out x hx hu
            · rw [List.mem_singleton.1 hx, ← exi] at hu ⊢
              exact h hu
          have hik := find_eq (right_asc H1.out).apart t hix
          rw [HFT.out, ← exi] at hik
          have HSK : Hid (ps[i].1.path = t → preL xs f t (i + 1) = preL xs f t i) := fun h => pre_skip hix (by rw [← exi]; exact h)
          have HN : Hid (∀ W, Below wr.heap.size wr W → ps[i].1.path ≠ t → underB f ps[i].1.path = false → Calls Try.prog 51 #[.slice fa m fc, ndV ps[i]] W fun e w' => ListR w.heap.size (sortN (preL xs f t (i + 1))) (m + 1) e w' ∧ Below W.heap.size W w') := fun W hW hne hu => by
            have hmv : mvX f t xs[i] = ps[i].1 := by rw [mvX_no (by rw [← exi]; exact hu), exi]
            have h5 := put_next (f := f) (t := t) H1.out HTO.out i hix (by rw [← exi]; exact hne) (HPN.out (fun e => by rw [hu] at e; cases e)) (HX.out.below hW) (Nat.le_trans HB.out.size hW.size) (by omega) HM0.out ps[i].2 (by rw [hmv]; exact hok.below hW) h8i
            rw [hmv] at h5
            exact h5
          have HY : Hid (∀ W T, Below wr.heap.size wr W → ps[i].1.path ≠ t → underB f ps[i].1.path = true → moveX ps[i].1.path f t = (T, 0) → Calls Try.prog 51 #[.slice fa m fc, ndV (⟨T, ps[i].1.dir, ps[i].1.quota, ps[i].1.bs, ps[i].1.wr⟩, ps[i].2)] W fun e w' => ListR w.heap.size (sortN (preL xs f t (i + 1))) (m + 1) e w' ∧ Below W.heap.size W w') := fun W T hW hne hu hT => by
            have hmv : mvX f t xs[i] = ⟨T, ps[i].1.dir, ps[i].1.quota, ps[i].1.bs, ps[i].1.wr⟩ := by
              rw [mvX_yes (by rw [← exi]; exact hu), ← exi]
              unfold movN
              rw [hT]
            have h5 := put_next (f := f) (t := t) H1.out HTO.out i hix (by rw [← exi]; exact hne) (HPN.out (fun _ => by rw [hT])) (HX.out.below hW) (Nat.le_trans HB.out.size hW.size) (by omega) HM0.out ps[i].2 (by rw [hmv]; exact ⟨by show T.size ≤ maxLen; have := moveX_small ps[i].1.path f t; rw [hT] at this; exact this, (hok.below hW).bs⟩) h8i
            rw [hmv] at h5
            exact h5
          clear hb hX hm0 hpre hok exi hix h8i hK
          generalize ps[i] = x at *
          obtain ⟨⟨xp, d, q, bs, wb⟩, ⟨sa, sn, sc⟩⟩ := x
          unfold ndV at HN HY
          simp only at e0 e1 e2 e3 e4 HSM HMEM HPN hik HSK HN HY
          by_cases hpt : xp = t
          · rw [decide_eq_true hpt] at hik
            have HEQ : Hid _ := HSK.out hpt
            have HPT : Hid (xp = t) := hpt
            clear hpt
            go_wp2
            go_roundw
            case rel => exact ⟨i + 1, fa, m, fc, by omega, by go_num, rfl, by rw [HEQ.out]; exact HX.out.below (bel_al _ _), HM0.out, HPN.out (fun e => by rw [HPT.out, HV3.out] at e; cases e), HB.out.trans ((bel_al _ _).mono HB.out.size)⟩
            case measure => simp [intOf]; omega
          · rw [decide_eq_false hpt] at hik
            have HPT : Hid (xp ≠ t) := hpt
            clear hpt
            cases hu : underB f xp with
            | false =>
              have HU : Hid _ := hu
              clear hu
              go_wp2_with (first
                | (go_at_call 56; refine (refUnder_val f xp false _ HF.out HSM.out HU.out).mono ?_; rintro e w1 ⟨rfl, c1⟩; have B1 : Hid (Below wr.heap.size wr w1) := bel_tr (bel_al _ _) c1; have y0 := bel_cell c1 (World.cell?_alloc_new wr _ _ 0); have y1 := bel_cell c1 (World.cell?_alloc_new wr _ _ 1); have y2 := bel_cell c1 (World.cell?_alloc_new wr _ _ 2); have y3 := bel_cell c1 (World.cell?_alloc_new wr _ _ 3); have y4 := bel_cell c1 (World.cell?_alloc_new wr _ _ 4); clear c1)
                | (go_at_call 51; refine (HN.out _ B1.out HPT.out HU.out).mono ?_; rintro e w2 ⟨⟨a2, c2, rfl, hX2⟩, c2b⟩; have HX2 : Hid _ := hX2; have B2 : Hid (Below wr.heap.size wr w2) := bel_tr B1.out c2b; clear hX2 c2b))
              go_roundw
              case rel => exact ⟨i + 1, a2, m + 1, c2, by omega, by go_num, rfl, HX2.out, fun e => by omega, HPN.out (fun e => by rw [HU.out] at e; cases e), HB.out.trans (B2.out.mono HB.out.size)⟩
              case measure => simp [intOf]; omega
            | true =>
              have HU : Hid _ := hu
              clear hu
              obtain ⟨T, F, hT⟩ : ∃ T F, moveX xp f t = (T, F) := ⟨_, _, rfl⟩
              have HT2 : Hid _ := hT
              by_cases hF0 : F = 0
              · subst hF0
                clear hT
                go_wp2_with (first
                  | (go_at_call 56; refine (refUnder_val f xp true _ HF.out HSM.out HU.out).mono ?_; rintro e w1 ⟨rfl, c1⟩; have B1 : Hid (Below wr.heap.size wr w1) := bel_tr (bel_al _ _) c1; have HFZ : Hid (w1.frozen? ⟨wr.heap.size, 0, none⟩ = false) := bel_frozen c1 0; have y0 := bel_cell c1 (World.cell?_alloc_new wr _ _ 0); have y1 := bel_cell c1 (World.cell?_alloc_new wr _ _ 1); have y2 := bel_cell c1 (World.cell?_alloc_new wr _ _ 2); have y3 := bel_cell c1 (World.cell?_alloc_new wr _ _ 3); have y4 := bel_cell c1 (World.cell?_alloc_new wr _ _ 4); clear c1)
                  | (go_at_call 61; refine (refMove_val xp f t T 0 _ HSM.out HF.out HT.out HT2.out).mono ?_; rintro e w2 ⟨rfl, c2⟩; have B2 : Hid (Below wr.heap.size wr w2) := bel_tr B1.out c2; have zf := froz_bel c2 y0 HFZ.out; have z0 := bel_cell c2 y0; have z1 := bel_cell c2 y1; have z2 := bel_cell c2 y2; have z3 := bel_cell c2 y3; have z4 := bel_cell c2 y4; clear c2)
                  | (go_at_call 51; refine (HY.out _ T (bel_set B2.out wr.heap.size 0 _ (Nat.le_refl _)) HPT.out HU.out HT2.out).mono ?_; rintro e w3 ⟨⟨a2, c2, rfl, hX2⟩, c2b⟩; have HX2 : Hid _ := hX2; have B3 : Hid (Below wr.heap.size wr w3) := bel_tr (bel_set B2.out wr.heap.size 0 _ (Nat.le_refl _)) c2b; clear hX2 c2b))
                go_roundw
                case rel => exact ⟨i + 1, a2, m + 1, c2, by omega, by go_num, rfl, HX2.out, fun e => by omega, HPN.out (fun _ => by rw [HT2.out]), HB.out.trans (B3.out.mono HB.out.size)⟩
                case measure => simp [intOf]; omega
              · obtain rfl : F = 4 := by
                  have := HERR.out _ HMEM.out HU.out (by rw [hT]; exact hF0)
                  rw [hT] at this; exact this
                obtain rfl : E = 4 := by
                  rcases H04.out with e | e
                  · have := HOK.out e _ HMEM.out HU.out
                    rw [hT] at this; cases this
                  · exact e
                have hr : Hid (movA xs f t 4 = []) := rfl
                clear hT hF0
                go_wp2_with (first
                  | (go_at_call 56; refine (refUnder_val f xp true _ HF.out HSM.out HU.out).mono ?_; rintro e w1 ⟨rfl, c1⟩; have B1 : Hid (Below wr.heap.size wr w1) := bel_tr (bel_al _ _) c1; have y0 := bel_cell c1 (World.cell?_alloc_new wr _ _ 0); have y1 := bel_cell c1 (World.cell?_alloc_new wr _ _ 1); have y2 := bel_cell c1 (World.cell?_alloc_new wr _ _ 2); have y3 := bel_cell c1 (World.cell?_alloc_new wr _ _ 3); have y4 := bel_cell c1 (World.cell?_alloc_new wr _ _ 4); clear c1)
                  | (go_at_call 61; refine (refMove_val xp f t T 4 _ HSM.out HF.out HT.out HT2.out).mono ?_; rintro e w2 ⟨rfl, c2⟩; have B2 : Hid (Below wr.heap.size wr w2) := bel_tr B1.out c2; clear c2))
                go_ret2
                exact ⟨by rw [hr.out]; exact TwoR.no _ _ rfl, HB.out.trans (B2.out.mono HB.out.size)⟩
        · obtain rfl : i = n := by omega
          have hgd : decide ((i : Int) < (i : Int)) = false := decide_eq_false (by omega)
          obtain rfl : E = 0 := by
            rcases H04.out with e | e
            · exact e
            · obtain ⟨x, hx, hu, hne⟩ := HLONG.out e
              exact absurd (hpre x (by rw [List.take_of_length_le (by rw [HLEN.out]; omega)]; exact hx) hu) hne
          have HXE : Hid (LX w.heap.size wr fa m fc (movA xs f t 0)) := by
            show LX w.heap.size wr fa m fc (movL xs f t)
            have h5 := HX.out
            rw [pre_all H1.out HTO.out HV3.out (HOK.out rfl) i (by rw [HLEN.out]; omega)] at h5
            exact h5
          clear hb hX hpre hlt
          go_wp2
          go_ret2
          exact ⟨⟨fa, m, fc, rfl, HXE.out⟩, HB.out⟩

theorem refMoveT_val {a : Option Addr} {n c : Nat} {xs : NS} {w : World} (h : NL w a n xs) (f t : ByteArray) (hf : f.size ≤ maxLen) (ht : t.size ≤ maxLen) (E : Int) (hE : MovE xs f t E) :
    Calls Try.prog 27 #[.slice a n c, .string f, .string t] w fun e w' => TwoR w.heap.size (movA xs f t E) E e w' ∧ Below w.heap.size w w' := by
  rcases refM_of hE with ⟨h0, hR⟩ | ⟨hR, h04⟩
  · have hr : movA xs f t E = [] := if_neg h0
    rw [hr]
    exact refMove_bad h f t hf ht E hR h0
  · exact refMove_good h f t hf ht E hR hE h04

end Go.Proofs.Ytdcmhbodjmajcaa
