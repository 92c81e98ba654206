/- The contract of tabulariumref07.Move: what it refuses. -/
import Derived.Test.YtdcmhbodjmajcaaTreeR7
import Derived.Test.YtdcmhbodjmajcaaTreeT4
namespace Go.Proofs.Ytdcmhbodjmajcaa
open Go.RowKit

set_option maxRecDepth 100000 in
set_option maxHeartbeats 2000000 in
theorem refMove_bad {a : Option Addr} {n c : Nat} {xs : NS} {w : World} (h : NL w a n xs) (f t : ByteArray) (hf : f.size ≤ maxLen) (ht : t.size ≤ maxLen) (E : Int) (hE : RefM xs f t E) (hE0 : E ≠ 0) :
    Calls Try.prog 27 #[.slice a n c, .string f, .string t] w fun e w' => TwoR w.heap.size [] E e w' ∧ Below w.heap.size w w' := by
  have CR : Hid (∀ W u, Below w.heap.size w W → (u = true ↔ Right xs) → Calls Try.prog 16 #[.slice a n c] W fun e w' => e = .returned (.bool u) ∧ Below W.heap.size W w') := fun W u hb hu => refRight_val (h.below hb) u hu
  have CF : Hid (∀ W p I, Below w.heap.size w W → findI xs p = I → Calls Try.prog 18 #[.slice a n c, .string p] W fun e w' => e = .returned (.int .i64 I) ∧ Below W.heap.size W w') := fun W p I hb hI => refFind_val (h.below hb) p I hI
  have CP : Hid (∀ W F, Below w.heap.size w W → dirE xs (parD t) = F → Calls Try.prog 50 #[.slice a n c, .string t] W fun e w' => e = .returned (.int .i64 F) ∧ Below W.heap.size W w') := fun W F hb hF => refPar_val (h.below hb) t ht F hF
  have HF : Hid (f.size ≤ maxLen) := hf
  have HT : Hid (t.size ≤ maxLen) := ht
  have HLEN : Hid (xs.length = n) := by obtain ⟨_, _, _, _, k2, _⟩ := h.ex; exact k2
  have HNL : Hid (NL w a n xs) := h
  have hlid := h.lid
  unfold maxLen at hlid
  have e0 := root_eq f
  have e1 := root_eq t
  clear h hf ht
  cases hE with
  | arg hn =>
    obtain ⟨v1, hv1⟩ : ∃ v, pathB f = v := ⟨_, rfl⟩
    obtain ⟨v2, hv2⟩ : ∃ v, pathB t = v := ⟨_, rfl⟩
    obtain ⟨v3, hv3⟩ : ∃ v, underB f t = v := ⟨_, rfl⟩
    have HV1 : Hid _ := hv1
    have HV2 : Hid _ := hv2
    have HV3 : Hid _ := hv3
    by_cases h1 : Right xs
    · have H1 : Hid (Right xs) := h1
      cases v1 with
      | false =>
        clear h1 hn hv1 hv2 hv3 e0 e1
        have M1 : True := trivial
        have M2 : True := trivial
        go_enter Try.func27, Try.ntmps27
        go_wp2_with (first
          | (go_at_call 16; refine (CR.out _ true (Below.refl _ _) ⟨fun _ => H1.out, fun _ => rfl⟩).mono ?_; rintro e w1 ⟨rfl, c1⟩; have cc : Hid _ := c1; clear c1)
          | (go_at_call 37; clear M1; refine (refPath_val f false _ HF.out HV1.out).mono ?_; rintro e w2 ⟨rfl, c2⟩; have cc2 : Hid _ := bel_tr cc.out c2; clear c2)
          | (go_at_call 37; refine (refPath_val t v2 _ HT.out HV2.out).mono ?_; rintro e w3 ⟨rfl, c3⟩; have cc3 : Hid _ := bel_tr cc2.out c3; clear c3)
          | (go_at_call 56; refine (refUnder_val f t v3 _ HF.out HT.out HV3.out).mono ?_; rintro e w4 ⟨rfl, c4⟩; have cc4 : Hid (Below w.heap.size w w4) := bel_tr cc3.out c4; clear c4))
        go_ret2
        exact ⟨TwoR.no _ _ rfl, cc4.out⟩
      | true =>
      cases v2 with
      | false =>
        clear h1 hn hv1 hv2 hv3 e0 e1
        have M1 : True := trivial
        have M2 : True := trivial
        go_enter Try.func27, Try.ntmps27
        go_wp2_with (first
          | (go_at_call 16; refine (CR.out _ true (Below.refl _ _) ⟨fun _ => H1.out, fun _ => rfl⟩).mono ?_; rintro e w1 ⟨rfl, c1⟩; have cc : Hid _ := c1; clear c1)
          | (go_at_call 37; clear M1; refine (refPath_val f true _ HF.out HV1.out).mono ?_; rintro e w2 ⟨rfl, c2⟩; have cc2 : Hid _ := bel_tr cc.out c2; clear c2)
          | (go_at_call 37; refine (refPath_val t false _ HT.out HV2.out).mono ?_; rintro e w3 ⟨rfl, c3⟩; have cc3 : Hid _ := bel_tr cc2.out c3; clear c3)
          | (go_at_call 56; refine (refUnder_val f t v3 _ HF.out HT.out HV3.out).mono ?_; rintro e w4 ⟨rfl, c4⟩; have cc4 : Hid (Below w.heap.size w w4) := bel_tr cc3.out c4; clear c4))
        go_ret2
        exact ⟨TwoR.no _ _ rfl, cc4.out⟩
      | true =>
      by_cases h3 : f = rootP
      · rw [decide_eq_true h3] at e0
        clear h1 hn hv1 hv2 hv3 h3 e1
        have M1 : True := trivial
        have M2 : True := trivial
        go_enter Try.func27, Try.ntmps27
        go_wp2_with (first
          | (go_at_call 16; refine (CR.out _ true (Below.refl _ _) ⟨fun _ => H1.out, fun _ => rfl⟩).mono ?_; rintro e w1 ⟨rfl, c1⟩; have cc : Hid _ := c1; clear c1)
          | (go_at_call 37; clear M1; refine (refPath_val f true _ HF.out HV1.out).mono ?_; rintro e w2 ⟨rfl, c2⟩; have cc2 : Hid _ := bel_tr cc.out c2; clear c2)
          | (go_at_call 37; refine (refPath_val t true _ HT.out HV2.out).mono ?_; rintro e w3 ⟨rfl, c3⟩; have cc3 : Hid _ := bel_tr cc2.out c3; clear c3)
          | (go_at_call 56; refine (refUnder_val f t v3 _ HF.out HT.out HV3.out).mono ?_; rintro e w4 ⟨rfl, c4⟩; have cc4 : Hid (Below w.heap.size w w4) := bel_tr cc3.out c4; clear c4))
        go_ret2
        exact ⟨TwoR.no _ _ rfl, cc4.out⟩
      · rw [decide_eq_false h3] at e0
        by_cases h5 : t = rootP
        · rw [decide_eq_true h5] at e1
          clear h1 hn hv1 hv2 hv3 h3 h5
          have M1 : True := trivial
          have M2 : True := trivial
          go_enter Try.func27, Try.ntmps27
          go_wp2_with (first
            | (go_at_call 16; refine (CR.out _ true (Below.refl _ _) ⟨fun _ => H1.out, fun _ => rfl⟩).mono ?_; rintro e w1 ⟨rfl, c1⟩; have cc : Hid _ := c1; clear c1)
            | (go_at_call 37; clear M1; refine (refPath_val f true _ HF.out HV1.out).mono ?_; rintro e w2 ⟨rfl, c2⟩; have cc2 : Hid _ := bel_tr cc.out c2; clear c2)
            | (go_at_call 37; refine (refPath_val t true _ HT.out HV2.out).mono ?_; rintro e w3 ⟨rfl, c3⟩; have cc3 : Hid _ := bel_tr cc2.out c3; clear c3)
            | (go_at_call 56; refine (refUnder_val f t v3 _ HF.out HT.out HV3.out).mono ?_; rintro e w4 ⟨rfl, c4⟩; have cc4 : Hid (Below w.heap.size w w4) := bel_tr cc3.out c4; clear c4))
          go_ret2
          exact ⟨TwoR.no _ _ rfl, cc4.out⟩
        · rw [decide_eq_false h5] at e1
          cases v3 with
          | false => exact absurd ⟨h1, hv1, h3, hv2, h5, hv3⟩ hn
          | true =>
            clear h1 hn hv1 hv2 hv3 h3 h5
            have M1 : True := trivial
            have M2 : True := trivial
            go_enter Try.func27, Try.ntmps27
            go_wp2_with (first
              | (go_at_call 16; refine (CR.out _ true (Below.refl _ _) ⟨fun _ => H1.out, fun _ => rfl⟩).mono ?_; rintro e w1 ⟨rfl, c1⟩; have cc : Hid _ := c1; clear c1)
              | (go_at_call 37; clear M1; refine (refPath_val f true _ HF.out HV1.out).mono ?_; rintro e w2 ⟨rfl, c2⟩; have cc2 : Hid _ := bel_tr cc.out c2; clear c2)
              | (go_at_call 37; refine (refPath_val t true _ HT.out HV2.out).mono ?_; rintro e w3 ⟨rfl, c3⟩; have cc3 : Hid _ := bel_tr cc2.out c3; clear c3)
              | (go_at_call 56; refine (refUnder_val f t true _ HF.out HT.out HV3.out).mono ?_; rintro e w4 ⟨rfl, c4⟩; have cc4 : Hid (Below w.heap.size w w4) := bel_tr cc3.out c4; clear c4))
            go_ret2
            exact ⟨TwoR.no _ _ rfl, cc4.out⟩
    · have H1 : Hid (¬ Right xs) := h1
      clear h1 hn hv1 hv2 hv3 e0 e1
      have M1 : True := trivial
      have M2 : True := trivial
      go_enter Try.func27, Try.ntmps27
      go_wp2_with (first
        | (go_at_call 16; refine (CR.out _ false (Below.refl _ _) ⟨fun e => (by cases e), fun e => absurd e H1.out⟩).mono ?_; rintro e w1 ⟨rfl, c1⟩; have cc : Hid _ := c1; clear c1)
        | (go_at_call 37; clear M1; refine (refPath_val f v1 _ HF.out HV1.out).mono ?_; rintro e w2 ⟨rfl, c2⟩; have cc2 : Hid _ := bel_tr cc.out c2; clear c2)
        | (go_at_call 37; refine (refPath_val t v2 _ HT.out HV2.out).mono ?_; rintro e w3 ⟨rfl, c3⟩; have cc3 : Hid _ := bel_tr cc2.out c3; clear c3)
        | (go_at_call 56; refine (refUnder_val f t v3 _ HF.out HT.out HV3.out).mono ?_; rintro e w4 ⟨rfl, c4⟩; have cc4 : Hid (Below w.heap.size w w4) := bel_tr cc3.out c4; clear c4))
      go_ret2
      exact ⟨TwoR.no _ _ rfl, cc4.out⟩
  | none h1 h2 h3 h4 h5 h6 h7 =>
    have H1 : Hid (Right xs) := h1
    have HV1 : Hid _ := h2
    have HV2 : Hid _ := h4
    have HV3 : Hid _ := h6
    rw [decide_eq_false h3] at e0
    rw [decide_eq_false h5] at e1
    have HFF : Hid (findI xs f = -1) := find_neg h7
    clear h1 h2 h3 h4 h5 h6 h7
    have M1 : True := trivial
    have M2 : True := trivial
    go_enter Try.func27, Try.ntmps27
    go_wp2_with (first
      | (go_at_call 16; refine (CR.out _ true (Below.refl _ _) ⟨fun _ => H1.out, fun _ => rfl⟩).mono ?_; rintro e w1 ⟨rfl, c1⟩; have cc : Hid _ := c1; clear c1)
      | (go_at_call 37; clear M1; refine (refPath_val f true _ HF.out HV1.out).mono ?_; rintro e w2 ⟨rfl, c2⟩; have cc2 : Hid _ := bel_tr cc.out c2; clear c2)
      | (go_at_call 37; refine (refPath_val t true _ HT.out HV2.out).mono ?_; rintro e w3 ⟨rfl, c3⟩; have cc3 : Hid _ := bel_tr cc2.out c3; clear c3)
      | (go_at_call 56; refine (refUnder_val f t false _ HF.out HT.out HV3.out).mono ?_; rintro e w4 ⟨rfl, c4⟩; have cc4 : Hid (Below w.heap.size w w4) := bel_tr cc3.out c4; clear c4)
      | (go_at_call 18; clear M2; refine (CF.out _ f _ cc4.out HFF.out).mono ?_; rintro e w5 ⟨rfl, c5⟩; have cc5 : Hid (Below w.heap.size w w5) := bel_tr cc4.out c5; clear c5))
    go_ret2
    exact ⟨TwoR.no _ _ rfl, cc5.out⟩
  | par e h1 h2 h3 h4 h5 h6 h7 h8 h9 =>
    have H1 : Hid (Right xs) := h1
    have HV1 : Hid _ := h2
    have HV2 : Hid _ := h4
    have HV3 : Hid _ := h6
    rw [decide_eq_false h3] at e0
    rw [decide_eq_false h5] at e1
    obtain ⟨i, h7a, h7b⟩ := find_pos h7
    have HFF : Hid (findI xs f = (i : Int)) := h7a
    have HPP : Hid (dirE xs (parD t) = E) := h8
    have h9b : (E != 0) = true := by simpa using h9
    clear h1 h2 h3 h4 h5 h6 h7 h7a h7b h8 h9
    have M1 : True := trivial
    have M2 : True := trivial
    go_enter Try.func27, Try.ntmps27
    go_wp2_with (first
      | (go_at_call 16; refine (CR.out _ true (Below.refl _ _) ⟨fun _ => H1.out, fun _ => rfl⟩).mono ?_; rintro e w1 ⟨rfl, c1⟩; have cc : Hid _ := c1; clear c1)
      | (go_at_call 37; clear M1; refine (refPath_val f true _ HF.out HV1.out).mono ?_; rintro e w2 ⟨rfl, c2⟩; have cc2 : Hid _ := bel_tr cc.out c2; clear c2)
      | (go_at_call 37; refine (refPath_val t true _ HT.out HV2.out).mono ?_; rintro e w3 ⟨rfl, c3⟩; have cc3 : Hid _ := bel_tr cc2.out c3; clear c3)
      | (go_at_call 56; refine (refUnder_val f t false _ HF.out HT.out HV3.out).mono ?_; rintro e w4 ⟨rfl, c4⟩; have cc4 : Hid (Below w.heap.size w w4) := bel_tr cc3.out c4; clear c4)
      | (go_at_call 18; clear M2; refine (CF.out _ f _ cc4.out HFF.out).mono ?_; rintro e w5 ⟨rfl, c5⟩; have cc5 : Hid (Below w.heap.size w w5) := bel_tr cc4.out c5; clear c5)
      | (go_at_call 50; refine (CP.out _ _ cc5.out HPP.out).mono ?_; rintro e w6 ⟨rfl, c6⟩; have cc6 : Hid (Below w.heap.size w w6) := bel_tr cc5.out c6; clear c6))
    go_ret2
    exact ⟨TwoR.no _ _ rfl, cc6.out⟩
  | exist h1 h2 h3 h4 h5 h6 h7 h8 h9 h10 =>
    have H1 : Hid (Right xs) := h1
    have HV1 : Hid _ := h2
    have HV2 : Hid _ := h4
    have HV3 : Hid _ := h6
    rw [decide_eq_false h3] at e0
    rw [decide_eq_false h5] at e1
    have HPP : Hid (dirE xs (parD t) = 0) := h8
    rcases findI_cases xs f with ⟨f1, _, _⟩ | ⟨i, f1, f2, hi, _⟩
    · exact absurd f1 h7
    rcases findI_cases xs t with ⟨g1, _, _⟩ | ⟨k, g1, g2, hk, _⟩
    · exact absurd g1 h9
    have HFF : Hid (findI xs f = (i : Int)) := f2
    have HFT : Hid (findI xs t = (k : Int)) := g2
    have hin : i < n := by rw [← HLEN.out]; exact hi
    have hkn : k < n := by rw [← HLEN.out]; exact hk
    obtain ⟨b, off, hab⟩ := HNL.out.addr (by omega)
    have HD1 : Hid (w.cell? ⟨b, off + i * 5 + 1, none⟩ = some (.bool xs[i].dir)) := HNL.out.dir hab hi
    have HD2 : Hid (w.cell? ⟨b, off + k * 5 + 1, none⟩ = some (.bool xs[k].dir)) := HNL.out.dir hab hk
    rw [isDir_at f1 hi, isDir_at g1 hk] at h10
    subst hab
    clear h1 h2 h3 h4 h5 h6 h7 h8 h9 f1 f2 g1 g2
    generalize xs[i].dir = d1 at *
    generalize xs[k].dir = d2 at *
    cases d1 with
    | true =>
      clear h10
      have M1 : True := trivial
      have M2 : True := trivial
      go_enter Try.func27, Try.ntmps27
      go_wp2_with (first
        | (go_at_call 16; refine (CR.out _ true (Below.refl _ _) ⟨fun _ => H1.out, fun _ => rfl⟩).mono ?_; rintro e w1 ⟨rfl, c1⟩; have cc : Hid _ := c1; clear c1)
        | (go_at_call 37; clear M1; refine (refPath_val f true _ HF.out HV1.out).mono ?_; rintro e w2 ⟨rfl, c2⟩; have cc2 : Hid _ := bel_tr cc.out c2; clear c2)
        | (go_at_call 37; refine (refPath_val t true _ HT.out HV2.out).mono ?_; rintro e w3 ⟨rfl, c3⟩; have cc3 : Hid _ := bel_tr cc2.out c3; clear c3)
        | (go_at_call 56; refine (refUnder_val f t false _ HF.out HT.out HV3.out).mono ?_; rintro e w4 ⟨rfl, c4⟩; have cc4 : Hid (Below w.heap.size w w4) := bel_tr cc3.out c4; clear c4)
        | (go_at_call 18; clear M2; refine (CF.out _ f _ cc4.out HFF.out).mono ?_; rintro e w5 ⟨rfl, c5⟩; have cc5 : Hid (Below w.heap.size w w5) := bel_tr cc4.out c5; clear c5)
        | (go_at_call 50; refine (CP.out _ _ cc5.out HPP.out).mono ?_; rintro e w6 ⟨rfl, c6⟩; have cc6 : Hid (Below w.heap.size w w6) := bel_tr cc5.out c6; clear c6)
        | (go_at_call 18; refine (CF.out _ t _ cc6.out HFT.out).mono ?_; rintro e w7 ⟨rfl, c7⟩; have cc7 : Hid (Below w.heap.size w w7) := bel_tr cc6.out c7; have dc1 := bel_cell cc7.out HD1.out; have dc2 := bel_cell cc7.out HD2.out; clear c7))
      go_ret2
      exact ⟨TwoR.no _ _ rfl, cc7.out⟩
    | false =>
      obtain rfl : d2 = true := by simpa using h10
      clear h10
      have M1 : True := trivial
      have M2 : True := trivial
      go_enter Try.func27, Try.ntmps27
      go_wp2_with (first
        | (go_at_call 16; refine (CR.out _ true (Below.refl _ _) ⟨fun _ => H1.out, fun _ => rfl⟩).mono ?_; rintro e w1 ⟨rfl, c1⟩; have cc : Hid _ := c1; clear c1)
        | (go_at_call 37; clear M1; refine (refPath_val f true _ HF.out HV1.out).mono ?_; rintro e w2 ⟨rfl, c2⟩; have cc2 : Hid _ := bel_tr cc.out c2; clear c2)
        | (go_at_call 37; refine (refPath_val t true _ HT.out HV2.out).mono ?_; rintro e w3 ⟨rfl, c3⟩; have cc3 : Hid _ := bel_tr cc2.out c3; clear c3)
        | (go_at_call 56; refine (refUnder_val f t false _ HF.out HT.out HV3.out).mono ?_; rintro e w4 ⟨rfl, c4⟩; have cc4 : Hid (Below w.heap.size w w4) := bel_tr cc3.out c4; clear c4)
        | (go_at_call 18; clear M2; refine (CF.out _ f _ cc4.out HFF.out).mono ?_; rintro e w5 ⟨rfl, c5⟩; have cc5 : Hid (Below w.heap.size w w5) := bel_tr cc4.out c5; clear c5)
        | (go_at_call 50; refine (CP.out _ _ cc5.out HPP.out).mono ?_; rintro e w6 ⟨rfl, c6⟩; have cc6 : Hid (Below w.heap.size w w6) := bel_tr cc5.out c6; clear c6)
        | (go_at_call 18; refine (CF.out _ t _ cc6.out HFT.out).mono ?_; rintro e w7 ⟨rfl, c7⟩; have cc7 : Hid (Below w.heap.size w w7) := bel_tr cc6.out c7; have dc1 := bel_cell cc7.out HD1.out; have dc2 := bel_cell cc7.out HD2.out; clear c7))
      go_ret2
      exact ⟨TwoR.no _ _ rfl, cc7.out⟩
  | ok h1 h2 h3 h4 h5 h6 h7 h8 h9 => exact absurd rfl hE0

end Go.Proofs.Ytdcmhbodjmajcaa
