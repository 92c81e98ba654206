/- The contracts of lease.placed, lease.Renew. -/
import Derived.Test.YtflccniidaogiaaLeaseF5
namespace Go.Proofs.Ytflccniidaogiaa.Lea
open Go.RowKit Go.Proofs.Ytflccniidaogiaa

theorem bel_dr (w : World) : Below w.heap.size w w.drew := (Below.refl _ w).drew

/-- Three lists are laid side by side, the middle one a new one of one lease. -/
theorem cat_val {X : World} {a a3 : Option Addr} {k c n3 c3 : Nat} {s1 s3 : LS} (S1 : LL X a k c s1) (S3 : LL X a3 n3 c3 s3) (hk : k ≤ 100) (hn3 : n3 ≤ 100) (x : Ls) (t : TypeId) (Z : Nat) (hZ : X.heap.size = Z) (ys : LS) (hy : s1 ++ [x] ++ s3 = ys) (m : Nat) (hm : ys.length = m) :
    Calls Try.prog 26 #[.slice (some ⟨Z + 1, 0, none⟩) 3 3] ((X.alloc (.cells #[.int .i64 x.c, .int .i64 x.u] 41)).alloc (.cells #[.slice a k c, .slice (some ⟨Z, 0, none⟩) 1 1, .slice a3 n3 c3] t))
      fun e w' => LsR1 X.heap.size ys m e w' ∧ Below X.heap.size X w' := by
  subst hZ
  have b1 := bel_al X (.cells #[.int .i64 x.c, .int .i64 x.u] 41)
  have b2 := bel_al2 X (.cells #[.int .i64 x.c, .int .i64 x.u] 41) (.cells #[.slice a k c, .slice (some ⟨X.heap.size, 0, none⟩) 1 1, .slice a3 n3 c3] t)
  have hs : (X.alloc (.cells #[.int .i64 x.c, .int .i64 x.u] 41)).heap.size = X.heap.size + 1 := by simp
  have e := fun j => World.cell?_alloc_new (X.alloc (.cells #[.int .i64 x.c, .int .i64 x.u] 41)) #[.slice a k c, .slice (some ⟨X.heap.size, 0, none⟩) 1 1, .slice a3 n3 c3] t j
  rw [hs] at e
  have S2 : LL (X.alloc (.cells #[.int .i64 x.c, .int .i64 x.u] 41)) (some ⟨X.heap.size, 0, none⟩) 1 1 [x] := by
    refine ⟨rfl, fun e => (by cases e), Nat.le_refl _, by unfold maxLen; omega, fun _ => ⟨X.heap.size, 0, rfl, fun j hj i v hv => ?_⟩⟩
    obtain rfl : j = 0 := by simpa using hj
    rw [show 0 + 0 * 2 + i = i by omega]
    refine (World.cell?_alloc_new X #[.int .i64 x.c, .int .i64 x.u] 41 i).trans ?_
    show (List.toArray (lsC x))[i]? = some v
    rw [List.getElem?_toArray]; exact hv
  refine (concat_three (X.heap.size + 1) a (some ⟨X.heap.size, 0, none⟩) a3 k 1 n3 c 1 c3 s1 [x] s3 _ (e 0) (e 1) (e 2) (S1.below b2) (S2.below (bel_al _ _)) (S3.below b2) hk (by omega) hn3 ys hy m hm).mono ?_
  rintro f w' ⟨⟨a', c', g', rfl, hO⟩, hb⟩
  exact ⟨⟨a', c', g', rfl, hO.mono b2.size⟩, bel_tr b2 hb⟩

set_option maxRecDepth 100000 in
set_option maxHeartbeats 2000000 in
theorem placed_val {a : Option Addr} {n c : Nat} {xs : LS} {w : World} (h : LL w a n c xs) (hn4 : n ≤ 4) (hp : xs.Pairwise (fun x y => x.c < y.c)) (x : Ls) (ys : LS) (hy : putL xs x = ys) (m : Nat) (hm : ys.length = m) :
    Calls Try.prog 22 #[.slice a n c, lsV x, .func (.func 21) #[] #[]] w fun e w' => LsR1 w.heap.size ys m e w' ∧ Below w.heap.size w w' := by
  obtain ⟨k, hk⟩ := isAt_ex hp x.c
  have hkn : k ≤ n := by rw [← h.len]; exact hk.le
  have hroom := h.room
  have hlid := h.lid
  unfold maxLen at hlid
  rw [put_is hp hk] at hy
  obtain ⟨d, rfl⟩ : ∃ d, n = k + d := ⟨n - k, by omega⟩
  obtain ⟨q, rfl⟩ : ∃ q, c = k + q := ⟨c - k, by omega⟩
  have CS : Hid (∀ W v, Below w.heap.size w W → (v = true ↔ ∃ h : k < xs.length, xs[k].c = x.c) → Calls Try.prog 25 #[.slice a ((k + d : Nat)) (k + q), lsV x, .func (.func 21) #[] #[]] W fun e w' => e = .returned (.tuple #[.int .i64 k, .bool v]) ∧ Below W.heap.size W w') := fun W v hb hv => search_val (h.below hb) hn4 x k hk v hv
  have HL : Hid (LL w a (k + d) (k + q) xs) := h
  have HLN : Hid (xs.length = k + d) := h.len
  have HM : Hid (ys.length = m) := hm
  obtain ⟨xc, xu⟩ := x
  unfold lsV at *
  simp only at CS hy
  have hk4 : k ≤ 4 := by omega
  have hd4 : d ≤ 4 := by omega
  have hq : k + q ≤ 9223372036854775807 := by omega
  clear hm hlid hp
  have CC : Hid (∀ X a3 n3 c3 s3 t Z, Below w.heap.size w X → X.heap.size = Z → LL X a3 n3 c3 s3 → n3 ≤ 4 → xs.take k ++ [(⟨xc, xu⟩ : Ls)] ++ s3 = ys → Calls Try.prog 26 #[.slice (some ⟨Z + 1, 0, none⟩) 3 3] ((X.alloc (.cells #[.int .i64 xc, .int .i64 xu] 41)).alloc (.cells #[.slice a k (k + q), .slice (some ⟨Z, 0, none⟩) 1 1, .slice a3 n3 c3] t))
      fun e w' => LsR1 w.heap.size ys m e w' ∧ Below w.heap.size w w') := fun X a3 n3 c3 s3 t Z hb hZ hS3 hn3 hys => by
    refine (cat_val ((HL.out.below hb).cut k (by omega)) hS3 (by omega) (by omega) ⟨xc, xu⟩ t Z hZ ys hys m HM.out).mono ?_
    rintro e w' ⟨⟨a', c', g', rfl, hO⟩, hb'⟩
    exact ⟨⟨a', c', g', rfl, hO.mono hb.size⟩, bel_tr hb hb'⟩
  cases a with
  | none =>
    have h0 := h.nil rfl
    obtain rfl : k = 0 := by omega
    obtain rfl : q = 0 := by omega
    obtain rfl : d = 0 := by omega
    have hx : xs = [] := List.length_eq_zero_iff.1 HLN.out
    subst hx
    have HV : Hid (false = true ↔ ∃ h : 0 < ([] : LS).length, ([] : LS)[0].c = xc) := ⟨fun e => (by cases e), fun ⟨h, _⟩ => absurd h (by simp)⟩
    have HY : Hid (([] : LS).take 0 ++ [(⟨xc, xu⟩ : Ls)] ++ [] = ys) := by show _ = _; rw [← hy]; simp
    clear h h0 hy hk hkn hroom
    simp only [Nat.add_zero] at CS HL CC
    have S3 : Hid (∀ X, Below w.heap.size w X → LL X none 0 0 []) := fun X hb => LL.zero X none 0 (fun _ => rfl) (Nat.zero_le _)
    go_enter Try.func22, Try.ntmps22
    go_wp2_with (go_at_call 25; refine (CS.out _ false (bel_al _ _) HV.out).mono ?_; rintro e w1 ⟨rfl, c1⟩; have B1 : Hid (Below w.heap.size w w1) := bel_tr (bel_al _ _) c1; have y0 := bel_cell c1 (World.cell?_alloc_new w _ _ 0); have y1 := bel_cell c1 (World.cell?_alloc_new w _ _ 1); clear c1)
    go_region_with (go_at_call 26; refine (CC.out w1.drew none 0 0 [] _ _ (bel_tr B1.out (bel_dr w1)) rfl (S3.out _ (bel_tr B1.out (bel_dr w1))) (by omega) HY.out).mono ?_; rintro e w2 ⟨⟨a2, c2, g2, rfl, hO⟩, b2⟩; have HO : Hid _ := hO; have B2 : Hid _ := b2; clear hO b2)
    all_goals
      go_wp2
      go_ret
      exact ⟨⟨a2, c2, g2, rfl, HO.out⟩, B2.out⟩
  | some ad =>
    by_cases hq0 : q = 0
    · subst hq0
      obtain rfl : d = 0 := by omega
      have hnv : ¬ ∃ h : k < xs.length, xs[k].c = xc := fun ⟨h, _⟩ => by rw [HLN.out] at h; omega
      rw [if_neg hnv, List.drop_of_length_le (by rw [HLN.out]; omega)] at hy
      have HV : Hid (false = true ↔ ∃ h : k < xs.length, xs[k].c = xc) := ⟨fun e => (by cases e), fun e => absurd e hnv⟩
      have HY : Hid (xs.take k ++ [(⟨xc, xu⟩ : Ls)] ++ [] = ys) := hy
      clear h hy hk hkn hroom hnv
      simp only [Nat.add_zero] at CS HL CC
      have S3 : Hid (∀ X, Below w.heap.size w X → LL X (some ad) 0 0 []) := fun X hb => LL.zero X (some ad) 0 (fun _ => rfl) (Nat.zero_le _)
      go_enter Try.func22, Try.ntmps22
      go_wp2_with (go_at_call 25; refine (CS.out _ false (bel_al _ _) HV.out).mono ?_; rintro e w1 ⟨rfl, c1⟩; have B1 : Hid (Below w.heap.size w w1) := bel_tr (bel_al _ _) c1; have y0 := bel_cell c1 (World.cell?_alloc_new w _ _ 0); have y1 := bel_cell c1 (World.cell?_alloc_new w _ _ 1); clear c1)
      go_region_with (go_at_call 26; refine (CC.out w1.drew (some ad) 0 0 [] _ _ (bel_tr B1.out (bel_dr w1)) rfl (S3.out _ (bel_tr B1.out (bel_dr w1))) (by omega) HY.out).mono ?_; rintro e w2 ⟨⟨a2, c2, g2, rfl, hO⟩, b2⟩; have HO : Hid _ := hO; have B2 : Hid _ := b2; clear hO b2)
      all_goals
        go_wp2
        go_ret
        exact ⟨⟨a2, c2, g2, rfl, HO.out⟩, B2.out⟩
    · by_cases hv : ∃ h : k < xs.length, xs[k].c = xc
      · rw [if_pos hv] at hy
        have hd0 : 0 < d := by
          obtain ⟨h, _⟩ := hv
          rw [HLN.out] at h; omega
        have HV : Hid (∃ h : k < xs.length, xs[k].c = xc) := hv
        obtain ⟨d', rfl⟩ : ∃ d', d = 1 + d' := ⟨d - 1, by omega⟩
        obtain ⟨q', rfl⟩ : ∃ q', q = 1 + q' := ⟨q - 1, by omega⟩
        have HY : Hid (xs.take k ++ [(⟨xc, xu⟩ : Ls)] ++ xs.drop (k + 1) = ys) := hy
        clear h hy hk hkn hv hd0 hq0
        by_cases hq1 : q' = 0
        · subst hq1
          obtain rfl : d' = 0 := by omega
          have hx0 : xs.drop (k + 1) = [] := List.drop_of_length_le (by rw [HLN.out]; omega)
          rw [hx0] at HY
          clear hx0 hroom
          simp only [Nat.add_zero] at CS HL CC
          have S3 : Hid (∀ X, Below w.heap.size w X → LL X (some (ad.add (k * 2))) 0 0 []) := fun X hb => LL.zero X _ 0 (fun _ => rfl) (Nat.zero_le _)
          go_enter Try.func22, Try.ntmps22
          go_wp2_with (go_at_call 25; refine (CS.out _ true (bel_al _ _) ⟨fun _ => HV.out, fun _ => rfl⟩).mono ?_; rintro e w1 ⟨rfl, c1⟩; have B1 : Hid (Below w.heap.size w w1) := bel_tr (bel_al _ _) c1; have y0 := bel_cell c1 (World.cell?_alloc_new w _ _ 0); have y1 := bel_cell c1 (World.cell?_alloc_new w _ _ 1); clear c1)
          go_region_with (go_at_call 26; refine (CC.out w1.drew (some (ad.add (k * 2))) 0 0 [] _ _ (bel_tr B1.out (bel_dr w1)) rfl (S3.out _ (bel_tr B1.out (bel_dr w1))) (by omega) HY.out).mono ?_; rintro e w2 ⟨⟨a2, c2, g2, rfl, hO⟩, b2⟩; have HO : Hid _ := hO; have B2 : Hid _ := b2; clear hO b2)
          all_goals
            go_wp2
            go_ret
            exact ⟨⟨a2, c2, g2, rfl, HO.out⟩, B2.out⟩
        · have HR : Hid (∀ X, Below w.heap.size w X → LL X (some ((ad.add (k * 2)).add 2)) d' q' (xs.drop (k + 1))) := fun X hb => by
            have := ((HL.out.below hb).rest).rest
            rw [List.drop_drop, Nat.one_mul] at this
            exact this
          clear hroom
          have S3 : Hid (∀ X, Below w.heap.size w X → LL X (some ((ad.add (k * 2)).add 2)) d' q' (xs.drop (k + 1))) := fun X hb => HR.out X hb
          go_enter Try.func22, Try.ntmps22
          go_wp2_with (go_at_call 25; refine (CS.out _ true (bel_al _ _) ⟨fun _ => HV.out, fun _ => rfl⟩).mono ?_; rintro e w1 ⟨rfl, c1⟩; have B1 : Hid (Below w.heap.size w w1) := bel_tr (bel_al _ _) c1; have y0 := bel_cell c1 (World.cell?_alloc_new w _ _ 0); have y1 := bel_cell c1 (World.cell?_alloc_new w _ _ 1); clear c1)
          go_region_with (go_at_call 26; refine (CC.out w1.drew (some ((ad.add (k * 2)).add 2)) d' q' (xs.drop (k + 1)) _ _ (bel_tr B1.out (bel_dr w1)) rfl (S3.out _ (bel_tr B1.out (bel_dr w1))) (by omega) HY.out).mono ?_; rintro e w2 ⟨⟨a2, c2, g2, rfl, hO⟩, b2⟩; have HO : Hid _ := hO; have B2 : Hid _ := b2; clear hO b2)
          all_goals
            go_wp2
            go_ret
            exact ⟨⟨a2, c2, g2, rfl, HO.out⟩, B2.out⟩
      · rw [if_neg hv] at hy
        have HV : Hid (¬ ∃ h : k < xs.length, xs[k].c = xc) := hv
        have HY : Hid (xs.take k ++ [(⟨xc, xu⟩ : Ls)] ++ xs.drop k = ys) := hy
        clear h hy hk hkn hv hroom
        have S3 : Hid (∀ X, Below w.heap.size w X → LL X (some (ad.add (k * 2))) d q (xs.drop k)) := fun X hb => (HL.out.below hb).rest
        go_enter Try.func22, Try.ntmps22
        go_wp2_with (go_at_call 25; refine (CS.out _ false (bel_al _ _) ⟨fun e => (by cases e), fun e => absurd e HV.out⟩).mono ?_; rintro e w1 ⟨rfl, c1⟩; have B1 : Hid (Below w.heap.size w w1) := bel_tr (bel_al _ _) c1; have y0 := bel_cell c1 (World.cell?_alloc_new w _ _ 0); have y1 := bel_cell c1 (World.cell?_alloc_new w _ _ 1); clear c1)
        go_region_with (go_at_call 26; refine (CC.out w1.drew (some (ad.add (k * 2))) d q (xs.drop k) _ _ (bel_tr B1.out (bel_dr w1)) rfl (S3.out _ (bel_tr B1.out (bel_dr w1))) (by omega) HY.out).mono ?_; rintro e w2 ⟨⟨a2, c2, g2, rfl, hO⟩, b2⟩; have HO : Hid _ := hO; have B2 : Hid _ := b2; clear hO b2)
        all_goals
          go_wp2
          go_ret
          exact ⟨⟨a2, c2, g2, rfl, HO.out⟩, B2.out⟩

end Go.Proofs.Ytflccniidaogiaa.Lea
