/- The contract of slices.symMergeCmpFunc. -/
import Derived.Test.YtlgfhmedenlbcabRealSymA
import Derived.Test.YtlgfhmedenlbcabRealSymB
namespace Go.Proofs.Ytlgfhmedenlbcab
open Go.RowKit

/-- What symMerge does with a row, from a over m to b. -/
def SymDoes (base g cap n a m b : Nat) : Prop := ∀ (A M B : Int) (xs : List Nat) (w : World), A = a → M = m → B = b → xs.length = n → RowF base w g xs → (∀ x ∈ xs, x < 18446744073709551616) → Srt a m xs → Srt m b xs →
    Calls Try.prog 29 #[.slice (some ⟨g, 0, none⟩) n cap, .int .i64 A, .int .i64 M, .int .i64 B, .func (.func 9) #[] #[]] w fun e w' => e = .returned (.tuple #[]) ∧ ∃ ys, InsF a b b xs ys ∧ RowF base w' g ys ∧ Below base w w'

theorem InsF.len {a i b : Nat} {xs ys : List Nat} (h : InsF a i b xs ys) : ys.length = xs.length := h.mv.len

set_option maxRecDepth 100000 in
set_option maxHeartbeats 4000000 in
theorem symC_val (base g cap n a m b : Nat) (xs : List Nat) (w : World) (hn : xs.length = n) (hl : n ≤ 1000) (hR : RowF base w g xs) (hx : ∀ x ∈ xs, x < 18446744073709551616) (ham : a + 2 ≤ m) (hmb : m + 2 ≤ b) (hb : b ≤ n) (s1 : Srt a m xs) (s2 : Srt m b xs)
    (ih : ∀ a' m' b', b' - a' < b - a → a' < m' → m' < b' → b' ≤ n → SymDoes base g cap n a' m' b') :
    Calls Try.prog 29 #[.slice (some ⟨g, 0, none⟩) n cap, .int .i64 a, .int .i64 m, .int .i64 b, .func (.func 9) #[] #[]] w fun e w' => e = .returned (.tuple #[]) ∧ ∃ ys, InsF a b b xs ys ∧ RowF base w' g ys ∧ Below base w w' := by
  have HN : Hid _ := hn
  have HR : Hid _ := hR
  have HX : Hid _ := hx
  have HS1 : Hid _ := s1
  have HS2 : Hid _ := s2
  have HI : Hid _ := ih
  have HLo : Hid _ := Nat.le_trans hR.lo (Nat.le_of_lt hR.hi)
  clear hn hR hx s1 s2 ih
  obtain ⟨mid, hmid⟩ : ∃ mid : Nat, ((a : Int) + (b : Int)) / 2 = (mid : Int) := ⟨(a + b) / 2, by omega⟩
  have HM : Hid _ := hmid
  have hm1 : a + b ≤ 2 * mid + 1 := by omega
  have hm2 : 2 * mid ≤ a + b := by omega
  have hs0 : ∃ s0 r0 : Nat, (mid < m ∧ s0 + b = mid + m ∧ r0 = mid ∨ m ≤ mid ∧ s0 = a ∧ r0 = m) ∧ Seek a m b mid s0 r0 xs := by
    by_cases hc : mid < m
    · exact ⟨mid + m - b, mid, .inl ⟨hc, by omega, rfl⟩, ⟨by omega, by omega, by omega, .inr (.inl (by omega)), .inr (.inl rfl)⟩⟩
    · exact ⟨a, m, .inr ⟨by omega, rfl, rfl⟩, ⟨by omega, by omega, by omega, .inl rfl, .inl rfl⟩⟩
  obtain ⟨s0, r0, hs0, hseek⟩ := hs0
  have HSeek : Hid _ := hseek
  clear hseek
  rcases hs0 with ⟨hc, hs0, hr0⟩ | ⟨hc, hs0, hr0⟩
  all_goals
    go_enter Try.func29, Try.ntmps29
    go_wp2
    go_loopw [20, 21] (fun v u wr => ∃ (s r d : Nat), v = .int .i64 s ∧ u = .int .i64 r ∧ Seek a m b mid s r xs ∧ wr = w.drewN d) (fun v u _ => (intOf u).toNat - (intOf v).toNat)
    case atStart => exact ⟨s0, r0, 0, by first | (subst hs0; rfl) | go_num, by subst hr0; rfl, HSeek.out, rfl⟩
    case round =>
      obtain ⟨s, r, d, rfl, rfl, hsk, hd⟩ := hrel
      have hrow : RowF base wr g xs := by rw [hd]; exact HR.out.drew d
      have hlen := HN.out
      have k1 := hsk.lo
      have k2 := hsk.hi
      have k3 := hsk.sr
      have HSk : Hid _ := hsk
      have HD : Hid _ := hd
      clear hsk hd HR HSeek
      by_cases hsr : s < r
      · obtain ⟨c, hcc⟩ : ∃ c : Nat, ((s : Int) + (r : Int)) / 2 = (c : Int) := ⟨(s + r) / 2, by omega⟩
        have hc1 : s ≤ c := by omega
        have hc2 : c < r := by omega
        obtain ⟨pc, hpc⟩ : ∃ pc : Nat, (mid : Int) + (m : Int) - 1 - (c : Int) = (pc : Int) := ⟨mid + m - 1 - c, by omega⟩
        have hpn : pc = mid + m - 1 - c := by omega
        have c1 := hrow.cell pc (by omega)
        have c2 := hrow.cell c (by omega)
        have b1 := HX.out _ (mem_at0 (show pc < xs.length by omega))
        have b2 := HX.out _ (mem_at0 (show c < xs.length by omega))
        have HL : Hid _ := hlen
        have hpl : pc < n := by omega
        have hcl : c < n := by omega
        have HPN : Hid _ := hpn
        clear hrow hlen hpn
        by_cases hk : key (at0 xs pc) < key (at0 xs c)
        · have C : Hid _ := fun w => order_val (at0 xs pc) (at0 xs c) (-1) w b1 b2 (cmp_lt0 hk)
          have HSk2 : Hid _ := HSk.out.down hc1 hc2 (by rw [← HPN.out]; exact hk)
          clear hk b1 b2 HSk
          generalize hx1 : at0 xs pc = x1 at *
          generalize hx2 : at0 xs c = x2 at *
          go_wp2
          go_quiet ((go_at_call 9; exact Calls.quiet_of_same (C.out _)))
          clear C
          go_wp2
          go_roundw
          case rel => exact ⟨s, c, _, rfl, rfl, HSk2.out, by rw [HD.out, World.drewN_drewN]⟩
          case measure => simp [intOf]; omega
        · obtain ⟨z, hz⟩ := cmp_nlt hk
          have C : Hid _ := fun w => order_val (at0 xs pc) (at0 xs c) (z : Int) w b1 b2 hz
          have HSk2 : Hid _ := HSk.out.up hc1 hc2 (by rw [← HPN.out]; exact hk)
          clear hk b1 b2 HSk hz
          generalize hx1 : at0 xs pc = x1 at *
          generalize hx2 : at0 xs c = x2 at *
          go_wp2
          go_quiet ((go_at_call 9; exact Calls.quiet_of_same (C.out _)))
          clear C
          go_wp2
          go_roundw
          case rel => exact ⟨c + 1, r, _, by go_num, rfl, HSk2.out, by rw [HD.out, World.drewN_drewN]⟩
          case measure => simp [intOf]; omega
      · obtain rfl : s = r := by omega
        have hcut : CutAt a m b mid s xs := HSk.out.done
        have hbel : Below base w wr := by rw [HD.out]; exact below_drewN ((Below.refl _ _).mono HLo.out) d
        have hmid2 : mid = (a + b) / 2 := by have := HM.out; omega
        have HCut : Hid _ := hcut
        have HMid : Hid _ := hmid2
        have HRow : Hid _ := hrow
        have HBel : Hid _ := hbel
        have HL : Hid _ := hlen
        clear hcut hmid2 hrow hbel hlen hsr HSk HD HM
        have hmb2 : mid < b := by omega
        have ham2 : a < mid := by omega
        obtain ⟨q, hq⟩ : ∃ q : Nat, (mid : Int) + (m : Int) - (s : Int) = (q : Int) := ⟨mid + m - s, by omega⟩
        have hqn : q = mid + m - s := by omega
        have HQ : Hid _ := hqn
        have hq1 : m ≤ q := by omega
        have hq2 : mid ≤ q := by omega
        have hq3 : q ≤ b := by omega
        have hq4 : q + s = mid + m := by omega
        clear hqn
        -- turned round, or there is nothing to turn round
        have hrot : (s < m ∧ m < q) ∨ ¬ (s < m ∧ m < q) := Classical.em _
        rcases hrot with ⟨hr1, hr2⟩ | hr
        · go_wp2_with fail
          refine (rotate_at base g cap n s m q _ _ _ _ xs _ rfl rfl rfl HL.out hl HRow.out hr1 hr2 (by omega)).mono ?_
          rintro e w2 ⟨rfl, ys, hrt, hrow2, hbel2⟩
          have hH : Halves a m b mid s xs ys := Halves.of (by omega) (by omega) HMid.out HS1.out HS2.out HCut.out (by rw [← HQ.out]; exact hrt)
          have hB2 := HBel.out.trans hbel2
          have HH : Hid _ := hH
          have HRow2 : Hid _ := hrow2
          have HB2 : Hid _ := hB2
          clear hrt hrow2 hbel2 hH hB2 HRow HBel HCut HMid
          by_cases hlft : a < s ∧ s < mid
          · obtain ⟨l1, l2⟩ := hlft
            have HPy : Hid (ys.Perm xs) := HH.out.mv.perm
            go_wp2_with fail
            refine (HI.out a s mid (by omega) l1 l2 (by omega) _ _ _ ys _ rfl rfl rfl (by rw [HPy.out.length_eq]; exact HL.out) HRow2.out (lt_of_perm HPy.out HX.out) HH.out.p1 HH.out.p2).mono ?_
            rintro e w3 ⟨rfl, zs, hz, hrow3, hbel3⟩
            have HZ : Hid _ := hz
            have HRow3 : Hid _ := hrow3
            have HB3 : Hid _ := HB2.out.trans hbel3
            clear hz hrow3 hbel3
            by_cases hrgt : mid < q ∧ q < b
            · obtain ⟨g1, g2⟩ := hrgt
              have hll := HH.out.left (.inl ⟨⟨l1, l2⟩, HZ.out⟩)
              have HLL : Hid _ := hll
              clear hll
              have HP4 : Hid (zs.Perm xs) := (HZ.out.mv.perm.trans HPy.out)
              go_wp2_with fail
              refine (HI.out mid q b (by omega) g1 g2 hb _ _ _ zs _ rfl rfl rfl (by rw [HP4.out.length_eq]; exact HL.out) HRow3.out (lt_of_perm HP4.out HX.out) (by have := HLL.out.2.2.1; rwa [← HQ.out] at this) (by have := HLL.out.2.2.2; rwa [← HQ.out] at this)).mono ?_
              rintro e w4 ⟨rfl, vs, hv, hrow4, hbel4⟩
              have hfin : InsF a b b xs vs := HH.out.both (by omega) (by omega) (.inl ⟨⟨l1, l2⟩, HZ.out⟩) (.inl ⟨by rw [← HQ.out]; exact ⟨g1, g2⟩, hv⟩)
              have hB4 := HB3.out.trans hbel4
              have HF : Hid _ := hfin
              clear hfin hv hbel4 HLL HP4
              go_wp2
              go_end0
              exact ⟨rfl, vs, HF.out, hrow4, hB4⟩
            · have hfin : InsF a b b xs zs := HH.out.both (by omega) (by omega) (.inl ⟨⟨l1, l2⟩, HZ.out⟩) (.inr ⟨by rw [← HQ.out]; exact hrgt, rfl⟩)
              have HF : Hid _ := hfin
              clear hfin
              have hr3 : ¬ mid < q ∨ mid < q ∧ ¬ q < b := by omega
              clear hrgt
              rcases hr3 with hr3 | ⟨hr3, hr4⟩
              all_goals
                go_wp2
                go_end0
                exact ⟨rfl, _, HF.out, HRow3.out, HB3.out⟩
          · have hl3 : ¬ a < s ∨ a < s ∧ ¬ s < mid := by omega
            have HNL : Hid _ := hlft
            clear hlft
            rcases hl3 with hl3 | ⟨hl3, hl4⟩
            all_goals
              by_cases hrgt : mid < q ∧ q < b
              · obtain ⟨g1, g2⟩ := hrgt
                have hll := HH.out.left (.inr ⟨HNL.out, rfl⟩)
                have HLL : Hid _ := hll
                clear hll
                have HP4 : Hid (ys.Perm xs) := (HH.out.mv.perm)
                go_wp2_with fail
                refine (HI.out mid q b (by omega) g1 g2 hb _ _ _ ys _ rfl rfl rfl (by rw [HP4.out.length_eq]; exact HL.out) HRow2.out (lt_of_perm HP4.out HX.out) (by have := HLL.out.2.2.1; rwa [← HQ.out] at this) (by have := HLL.out.2.2.2; rwa [← HQ.out] at this)).mono ?_
                rintro e w4 ⟨rfl, vs, hv, hrow4, hbel4⟩
                have hfin : InsF a b b xs vs := HH.out.both (by omega) (by omega) (.inr ⟨HNL.out, rfl⟩) (.inl ⟨by rw [← HQ.out]; exact ⟨g1, g2⟩, hv⟩)
                have hB4 := HB2.out.trans hbel4
                have HF : Hid _ := hfin
                clear hfin hv hbel4 HLL HP4
                go_wp2
                go_end0
                exact ⟨rfl, vs, HF.out, hrow4, hB4⟩
              · have hfin : InsF a b b xs ys := HH.out.both (by omega) (by omega) (.inr ⟨HNL.out, rfl⟩) (.inr ⟨by rw [← HQ.out]; exact hrgt, rfl⟩)
                have HF : Hid _ := hfin
                clear hfin
                have hr3 : ¬ mid < q ∨ mid < q ∧ ¬ q < b := by omega
                clear hrgt
                rcases hr3 with hr3 | ⟨hr3, hr4⟩
                all_goals
                  go_wp2
                  go_end0
                  exact ⟨rfl, _, HF.out, HRow2.out, HB2.out⟩
        · have hH : Halves a m b mid s xs xs := Halves.of (by omega) (by omega) HMid.out HS1.out HS2.out HCut.out (by
            rw [← HQ.out]
            by_cases e : s < m
            · have : q = m := by omega
              rw [this]; exact Rotated.same_r _ _ _
            · have : s = m := by omega
              subst this; exact Rotated.same_l _ hq1)
          have HH : Hid _ := hH
          clear hH HCut HMid
          have hr3 : ¬ s < m ∨ s < m ∧ ¬ m < q := by omega
          clear hr
          rcases hr3 with hr3 | ⟨hr3, hr4⟩
          all_goals
            by_cases hlft : a < s ∧ s < mid
            · obtain ⟨l1, l2⟩ := hlft
              have HPy : Hid (xs.Perm xs) := HH.out.mv.perm
              go_wp2_with fail
              refine (HI.out a s mid (by omega) l1 l2 (by omega) _ _ _ xs _ rfl rfl rfl (by rw [HPy.out.length_eq]; exact HL.out) HRow.out (lt_of_perm HPy.out HX.out) HH.out.p1 HH.out.p2).mono ?_
              rintro e w3 ⟨rfl, zs, hz, hrow3, hbel3⟩
              have HZ : Hid _ := hz
              have HRow3 : Hid _ := hrow3
              have HB3 : Hid _ := HBel.out.trans hbel3
              clear hz hrow3 hbel3
              by_cases hrgt : mid < q ∧ q < b
              · obtain ⟨g1, g2⟩ := hrgt
                have hll := HH.out.left (.inl ⟨⟨l1, l2⟩, HZ.out⟩)
                have HLL : Hid _ := hll
                clear hll
                have HP4 : Hid (zs.Perm xs) := (HZ.out.mv.perm.trans HPy.out)
                go_wp2_with fail
                refine (HI.out mid q b (by omega) g1 g2 hb _ _ _ zs _ rfl rfl rfl (by rw [HP4.out.length_eq]; exact HL.out) HRow3.out (lt_of_perm HP4.out HX.out) (by have := HLL.out.2.2.1; rwa [← HQ.out] at this) (by have := HLL.out.2.2.2; rwa [← HQ.out] at this)).mono ?_
                rintro e w4 ⟨rfl, vs, hv, hrow4, hbel4⟩
                have hfin : InsF a b b xs vs := HH.out.both (by omega) (by omega) (.inl ⟨⟨l1, l2⟩, HZ.out⟩) (.inl ⟨by rw [← HQ.out]; exact ⟨g1, g2⟩, hv⟩)
                have hB4 := HB3.out.trans hbel4
                have HF : Hid _ := hfin
                clear hfin hv hbel4 HLL HP4
                go_wp2
                go_end0
                exact ⟨rfl, vs, HF.out, hrow4, hB4⟩
              · have hfin : InsF a b b xs zs := HH.out.both (by omega) (by omega) (.inl ⟨⟨l1, l2⟩, HZ.out⟩) (.inr ⟨by rw [← HQ.out]; exact hrgt, rfl⟩)
                have HF : Hid _ := hfin
                clear hfin
                have hr3 : ¬ mid < q ∨ mid < q ∧ ¬ q < b := by omega
                clear hrgt
                rcases hr3 with hr3 | ⟨hr3, hr4⟩
                all_goals
                  go_wp2
                  go_end0
                  exact ⟨rfl, _, HF.out, HRow3.out, HB3.out⟩
            · have hl3 : ¬ a < s ∨ a < s ∧ ¬ s < mid := by omega
              have HNL : Hid _ := hlft
              clear hlft
              rcases hl3 with hl3 | ⟨hl3, hl4⟩
              all_goals
                by_cases hrgt : mid < q ∧ q < b
                · obtain ⟨g1, g2⟩ := hrgt
                  have hll := HH.out.left (.inr ⟨HNL.out, rfl⟩)
                  have HLL : Hid _ := hll
                  clear hll
                  have HP4 : Hid (xs.Perm xs) := (HH.out.mv.perm)
                  go_wp2_with fail
                  refine (HI.out mid q b (by omega) g1 g2 hb _ _ _ xs _ rfl rfl rfl (by rw [HP4.out.length_eq]; exact HL.out) HRow.out (lt_of_perm HP4.out HX.out) (by have := HLL.out.2.2.1; rwa [← HQ.out] at this) (by have := HLL.out.2.2.2; rwa [← HQ.out] at this)).mono ?_
                  rintro e w4 ⟨rfl, vs, hv, hrow4, hbel4⟩
                  have hfin : InsF a b b xs vs := HH.out.both (by omega) (by omega) (.inr ⟨HNL.out, rfl⟩) (.inl ⟨by rw [← HQ.out]; exact ⟨g1, g2⟩, hv⟩)
                  have hB4 := HBel.out.trans hbel4
                  have HF : Hid _ := hfin
                  clear hfin hv hbel4 HLL HP4
                  go_wp2
                  go_end0
                  exact ⟨rfl, vs, HF.out, hrow4, hB4⟩
                · have hfin : InsF a b b xs xs := HH.out.both (by omega) (by omega) (.inr ⟨HNL.out, rfl⟩) (.inr ⟨by rw [← HQ.out]; exact hrgt, rfl⟩)
                  have HF : Hid _ := hfin
                  clear hfin
                  have hr3 : ¬ mid < q ∨ mid < q ∧ ¬ q < b := by omega
                  clear hrgt
                  rcases hr3 with hr3 | ⟨hr3, hr4⟩
                  all_goals
                    go_wp2
                    go_end0
                    exact ⟨rfl, _, HF.out, HRow.out, HBel.out⟩

end Go.Proofs.Ytlgfhmedenlbcab
