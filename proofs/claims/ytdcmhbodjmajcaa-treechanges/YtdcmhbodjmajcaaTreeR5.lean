/- The contract of tabulariumref07.put. -/
import Derived.Test.YtdcmhbodjmajcaaTreeR4
namespace Go.Proofs.Ytdcmhbodjmajcaa
open Go.RowKit

set_option maxRecDepth 100000 in
set_option maxHeartbeats 4000000 in
theorem refPut_val {base : Nat} {a : Option Addr} {n c : Nat} {ys : NS} {w : World} (h : LX base w a n c ys) (hB : base ≤ w.heap.size) (hn100 : n ≤ 100) (hnil : n = 0 → a = none ∧ c = 0) (x : NR) (hx : NdOk w x) (h8 : x.2.n ≤ 8) (hA : Asc ys) (hat : at? ys x.1.path = none) :
    Calls Try.prog 51 #[.slice a n c, ndV x] w fun e w' => ListR base (sortN (ys ++ [x.1])) (n + 1) e w' ∧ Below w.heap.size w w' := by
  obtain ⟨ti, hi1, hi2, hi3, hi4⟩ := ndRow
  obtain ⟨ps, g, hps, hL⟩ := h.ex
  have hlen := hL.len
  have HL : Hid (Lot base w a n c ps g) := hL
  have HPS : Hid (ps.map (·.1) = ys) := hps
  have HYL : Hid (ys.length = n) := h.len
  have HA : Hid (Asc ys) := hA
  have HNO : Hid (at? ys x.1.path = none) := hat
  have CC : Hid (∀ W, Below w.heap.size w W → Calls Try.prog 45 #[ndV x] W fun e w' => CopyR W.heap.size x.1 e w' ∧ Below W.heap.size W w') := fun W hb => refCopy_val x W (hx.below hb) (by omega)
  obtain ⟨⟨q, d, qu, bs, wb⟩, ⟨sa, sn, sc⟩⟩ := x
  simp only at HNO
  have HFIN : Hid (∀ (j : Nat) (W1 w2 w3 w4 w5 : World) (s : RS) o a2 c2 g2 a4 c4 g4 a5 c5 g5, j ≤ n → Below w.heap.size w W1 → Cel (Grow (fun k => base ≤ k) W1 w2) w2 5 (.slice a2 j c2) j (rowC ndC (ps.take j)) g2 → Stay (fun k => none = some k) W1 w2 → (∀ k, g2 = some k → none = some k ∨ W1.heap.size ≤ k) → Free w2.heap.size w3 ((⟨q, d, qu, bs, wb⟩ : Nd), s) → Below w2.heap.size w2 w3 →
      Cel (Grow (fun k => base ≤ k) (w3.alloc o) w4) w4 5 (.slice a4 (j + 1) c4) (j + 1) (rowC ndC (ps.take j ++ [((⟨q, d, qu, bs, wb⟩ : Nd), s)])) g4 → Stay (fun k => g2 = some k) (w3.alloc o) w4 → (∀ k, g4 = some k → g2 = some k ∨ (w3.alloc o).heap.size ≤ k) →
      Cel (Grow (fun k => base ≤ k) w4 w5) w5 5 (.slice a5 (n + 1) c5) (n + 1) (rowC ndC (ps.take j ++ [((⟨q, d, qu, bs, wb⟩ : Nd), s)] ++ ps.drop j)) g5 → Stay (fun k => g4 = some k) w4 w5 → (∀ k, g5 = some k → g4 = some k ∨ w4.heap.size ≤ k) →
      Lot base w5 a5 (n + 1) c5 (ps.take j ++ [((⟨q, d, qu, bs, wb⟩ : Nd), s)] ++ ps.drop j) g5 ∧ Below w.heap.size w w5) := fun j W1 w2 w3 w4 w5 s o a2 c2 g2 a4 c4 g4 a5 c5 g5 hj bW hC2 hS2 hg2 hF B3 hC4 hS4 hg4 hC5 hS5 hg5 => by
    have z0 := bW.size
    have b2 : Below W1.heap.size W1 w2 := stay_none hS2
    have z2 := b2.size
    have hg2' : ∀ k, g2 = some k → W1.heap.size ≤ k := fun k hk => (hg2 k hk).elim (fun e => nomatch e) id
    -- the first part
    have bw2 : Below w.heap.size w w2 := bel_tr bW b2
    have L2 : Lot base w2 a2 j c2 (ps.take j) g2 := by
      refine ⟨grow_base (by omega) (fun k hk => hk) hC2, by rw [List.length_take, hlen]; omega, fun y hy => ((HL.out.take_free bw2) y (List.mem_of_mem_take hy)).1, fun y hy k hk e => ?_⟩
      have := ((HL.out.take_free bw2) y (List.mem_of_mem_take hy)).2 k e
      have := hg2' k hk
      omega
    rw [rowC_app] at hC4
    obtain ⟨L4, b24⟩ := L2.push (by omega) hF B3 hC4 hS4 hg4
    have z4 := b24.size
    have z3 := B3.size
    have b4w : Below w.heap.size w w4 := by
      have b3 : Below w2.heap.size w2 (w3.alloc o) := bel_tr B3 (bel_al _ _)
      refine (bw2.trans (b3.mono (by omega))).trans (hS4.below (by simp; omega) (fun k hk => ?_))
      have := hg2' k hk
      omega
    have z4w := b4w.size
    have hg4' : ∀ k, g4 = some k → w.heap.size ≤ k := fun k hk => (hg4 k hk).elim (fun e => by have := hg2' k e; omega) (fun e => by simp at e; omega)
    rw [rowC_app] at hC5
    have hnj : j + 1 + (n - j) = n + 1 := by omega
    have hC5' : Cel (Grow (fun k => base ≤ k) w4 w5) w5 5 (.slice a5 (j + 1 + (n - j)) c5) (j + 1 + (n - j)) (rowC ndC (ps.take j ++ [((⟨q, d, qu, bs, wb⟩ : Nd), s)]) ++ rowC ndC (ps.drop j)) g5 := by rw [hnj]; exact hC5
    have L5 := L4.app (qs := ps.drop j) (m := n - j) (fun y hy => ((HL.out.take_free b4w) y (List.mem_of_mem_drop hy)).1) (fun y hy k hk e => by
      have := ((HL.out.take_free b4w) y (List.mem_of_mem_drop hy)).2 k e
      have := hg4' k hk
      omega) (by rw [List.length_drop, hlen]) hC5' hS5 hg5 (by omega)
    rw [hnj] at L5
    exact ⟨L5, b4w.trans (hS5.below z4w hg4')⟩
  have HPRE : Hid (∀ (j : Nat) (W1 w2 w3 w4 : World) (s : RS) o a2 c2 g2 a4 c4 g4, Below w.heap.size w W1 → Cel (Grow (fun k => base ≤ k) W1 w2) w2 5 (.slice a2 j c2) j (rowC ndC (ps.take j)) g2 → Stay (fun k => none = some k) W1 w2 → (∀ k, g2 = some k → none = some k ∨ W1.heap.size ≤ k) → Below w2.heap.size w2 w3 →
      Cel (Grow (fun k => base ≤ k) (w3.alloc o) w4) w4 5 (.slice a4 (j + 1) c4) (j + 1) (rowC ndC (ps.take j ++ [((⟨q, d, qu, bs, wb⟩ : Nd), s)])) g4 → Stay (fun k => g2 = some k) (w3.alloc o) w4 → Below w.heap.size w w4) := fun j W1 w2 w3 w4 s o a2 c2 g2 a4 c4 g4 bW hC2 hS2 hg2 B3 hC4 hS4 => by
    have z0 := bW.size
    have b2 : Below W1.heap.size W1 w2 := stay_none hS2
    have z2 := b2.size
    have z3 := B3.size
    have bw2 : Below w.heap.size w w2 := bel_tr bW b2
    have b3 : Below w2.heap.size w2 (w3.alloc o) := bel_tr B3 (bel_al _ _)
    refine (bw2.trans (b3.mono (by omega))).trans (hS4.below (by simp; omega) (fun k hk => ?_))
    have := (hg2 k hk).elim (fun e => nomatch e) id
    omega
  have HBB : Hid (base ≤ w.heap.size) := hB
  unfold ndV at CC ⊢
  simp only at CC
  clear h hx h8 hA hat hL hps
  rcases Nat.eq_zero_or_pos n with hn0 | hn0
  · have hn0' : n = 0 := hn0
    obtain ⟨rfl, rfl⟩ := hnil hn0
    subst hn0
    have hps0 : ps = [] := List.length_eq_zero_iff.1 hlen
    have hys0 : ys = [] := List.length_eq_zero_iff.1 HYL.out
    have HDR : Hid (ps.drop 0 = []) := by show _ = _; rw [hps0]; rfl
    have HTK : Hid (ps.take 0 = []) := rfl
    have HEX : Hid (ys.take 0 ++ [(⟨q, d, qu, bs, wb⟩ : Nd)] ++ ys.drop 0 = sortN (ys ++ [⟨q, d, qu, bs, wb⟩])) := put_is HA.out HNO.out 0 (Nat.zero_le _) (fun i hi _ => by rw [hys0] at hi; simp at hi) (fun h => absurd h (Nat.lt_irrefl 0))
    clear hn0' hps0 hys0 hnil
    go_enter Try.func51, Try.ntmps51
    go_wp2
    go_loopw [5] (fun v5 wr => v5 = .int .i64 0 ∧ Below (w.alloc (.cells #[.string q, .bool d, .int .i64 qu, .slice sa sn sc, .int .i64 wb] 25)).heap.size (w.alloc (.cells #[.string q, .bool d, .int .i64 qu, .slice sa sn sc, .int .i64 wb] 25)) wr) (fun _ _ => 0)
    case atStart => exact ⟨rfl, Below.refl _ _⟩
    case round =>
      obtain ⟨rfl, hb⟩ := hrel
      have HB : Hid (Below (w.alloc (.cells #[.string q, .bool d, .int .i64 qu, .slice sa sn sc, .int .i64 wb] 25)).heap.size (w.alloc (.cells #[.string q, .bool d, .int .i64 qu, .slice sa sn sc, .int .i64 wb] 25)) wr) := hb
      clear hb
      go_wp2
      refine wp_region_quiet_below (by kernel_rfl) (by kernel_rfl) ?_
      repeat (first | go_big_quiet_step (fail) | quiet_step (fail))
      refine wpQuiet_nil ?_
      intro _ hw'
      obtain ⟨⟨dq, osq⟩, hw''⟩ := hw'
      subst hw''
      have B1 : Hid (Below wr.heap.size wr (Sort.grow (redrawn wr dq) osq)) := below_regrown wr dq osq
      generalize Sort.grow (redrawn wr dq) osq = w1 at *
      have B01 : Hid (Below (w.alloc (.cells #[.string q, .bool d, .int .i64 qu, .slice sa sn sc, .int .i64 wb] 25)).heap.size (w.alloc (.cells #[.string q, .bool d, .int .i64 qu, .slice sa sn sc, .int .i64 wb] 25)) w1) := bel_tr HB.out B1.out
      have y0 := bel_cell B01.out (World.cell?_alloc_new w _ _ 0)
      have y1 := bel_cell B01.out (World.cell?_alloc_new w _ _ 1)
      have y2 := bel_cell B01.out (World.cell?_alloc_new w _ _ 2)
      have y3 := bel_cell B01.out (World.cell?_alloc_new w _ _ 3)
      have y4 := bel_cell B01.out (World.cell?_alloc_new w _ _ 4)
      have BW1 : Hid (Below w.heap.size w w1) := bel_tr (bel_al _ _) B01.out
      have HY : Hid _ := And.intro y0 (And.intro y1 (And.intro y2 (And.intro y3 y4)))
      clear y0 y1 y2 y3 y4
      have M1 : True := trivial
      have M2 : True := trivial
      have M3 : True := trivial
      have M4 : True := trivial
      go_wp2_with (first
        | (at_builtin; clear M1; refine wpList_append_celN _ rfl _ _ 22 22 rfl 25 ti _ 5 64 Try.underlying22 hi1 hi2 hi3 hi4 rfl (O := fun k => base ≤ k) _ 0 [] none rfl (.nil rfl rfl rfl) _ 0 (rowC ndC (ps.take 0)) rfl (src_empty Try.underlying22 _ _ _) (by unfold maxLen; omega) (by omega) 0 (Nat.zero_add _) (rowC ndC (ps.take 0)) rfl ?_; intro a2 c2 w2 g2 hC2 hS2 hf2; have HC2 : Hid _ := hC2; have HS2 : Hid _ := hS2; have HG2 : Hid _ := hf2; have B12 : Hid (Below w1.heap.size w1 w2) := stay_none hS2; obtain ⟨y0, y1, y2, y3, y4⟩ := HY.out; have u0 := bel_cell B12.out y0; have u1 := bel_cell B12.out y1; have u2 := bel_cell B12.out y2; have u3 := bel_cell B12.out y3; have u4 := bel_cell B12.out y4; clear hC2 hS2 hf2 y0 y1 y2 y3 y4)
        | (go_at_call 45; clear M4; refine (CC.out _ (bel_tr BW1.out B12.out)).mono ?_; rintro e w3 ⟨⟨s, rfl, hF⟩, c3⟩; have HF : Hid (Free w2.heap.size w3 ((⟨q, d, qu, bs, wb⟩ : Nd), s)) := hF; have B23 : Hid (Below w2.heap.size w2 w3) := c3; clear hF c3; unfold ndV; simp only)
        | (at_builtin; clear M2; refine wpList_append_celN _ rfl _ _ 22 22 rfl 25 ti _ 5 64 Try.underlying22 hi1 hi2 hi3 hi4 rfl (O := fun k => base ≤ k) _ 0 (rowC ndC (ps.take 0)) g2 rfl ((grow_base (base := base) (Nat.le_trans HBB.out BW1.out.size) (fun k hk => hk) HC2.out).below (bel_tr B23.out (bel_al _ _))) _ 1 (rowC ndC [((⟨q, d, qu, bs, wb⟩ : Nd), s)]) rfl (src_new5 w3 ((⟨q, d, qu, bs, wb⟩ : Nd), s)) (by unfold maxLen; omega) (by omega) (0 + 1) rfl (rowC ndC (ps.take 0 ++ [((⟨q, d, qu, bs, wb⟩ : Nd), s)])) (rowC_app _ _).symm ?_; intro a4 c4 w4 g4 hC4 hS4 hf4; have HC4 : Hid _ := hC4; have HS4 : Hid _ := hS4; have HG4 : Hid _ := hf4; have B4W : Hid (Below w.heap.size w w4) := HPRE.out 0 w1 w2 w3 w4 s _ a2 c2 g2 a4 c4 g4 BW1.out HC2.out HS2.out HG2.out B23.out hC4 hS4; clear hC4 hS4 hf4)
        | (at_builtin; clear M3; refine wpList_append_celN _ rfl _ _ 22 22 rfl 25 ti _ 5 64 Try.underlying22 hi1 hi2 hi3 hi4 rfl (O := fun k => base ≤ k) _ (0 + 1) (rowC ndC (ps.take 0 ++ [((⟨q, d, qu, bs, wb⟩ : Nd), s)])) g4 rfl (HC4.out.stay (Nat.le_refl _) (fun _ _ => rfl) (fun k hk => hk.elim id (fun e => by have h7 := HBB.out; have h8 := BW1.out.size; have h9 := B12.out.size; have h6 := B23.out.size; have := e.1; simp at this; omega))) _ 0 ([]) rfl (src_empty Try.underlying22 _ _ _) (by unfold maxLen; omega) (by omega) (0 + 1) rfl (rowC ndC (ps.take 0 ++ [((⟨q, d, qu, bs, wb⟩ : Nd), s)] ++ ps.drop 0)) (by rw [rowC_app (ps.take 0 ++ [((⟨q, d, qu, bs, wb⟩ : Nd), s)]), HDR.out]; simp [rowC]) ?_; intro a5 c5 w5 g5 hC5 hS5 hf5; have HX5 : Hid _ := HFIN.out 0 w1 w2 w3 w4 w5 s _ a2 c2 g2 a4 c4 g4 a5 c5 g5 (by omega) BW1.out HC2.out HS2.out HG2.out HF.out B23.out HC4.out HS4.out HG4.out hC5 hS5 hf5; clear hC5 hS5 hf5))
      go_ret
      exact ⟨⟨a5, c5, rfl, ⟨ps.take 0 ++ [((⟨q, d, qu, bs, wb⟩ : Nd), s)] ++ ps.drop 0, g5, by rw [List.map_append, List.map_append, List.map_take, List.map_drop, HPS.out]; exact HEX.out, HX5.out.1⟩⟩, HX5.out.2⟩
  · clear hnil
    obtain ⟨gb, hga, hgb⟩ := HL.out.cel.at2 hn0
    subst hga hgb
    obtain ⟨hc1, hc2, _⟩ := HL.out.cel.cap2
    unfold maxLen at hc2
    have HPC : Hid (∀ W i (hi : i < ys.length), Below w.heap.size w W → W.cell? ⟨gb, i * 5, none⟩ = some (.string ys[i].path)) := fun W i hi hb => by
      have hip : i < ps.length := by rw [hlen, ← HYL.out]; exact hi
      obtain ⟨b', e1, e2, e3⟩ := (HL.out.cel.below hb).elem wideX hip hlen
      cases e1
      have := e3 0 _ rfl
      rw [Nat.add_zero] at this
      rw [this]
      have e : ps[i].1 = ys[i] := by have := HPS.out; subst this; simp
      rw [← e]
    have HSF : Hid (∀ W j, j ≤ n → Below w.heap.size w W → Src Try.prog 5 22 (.slice (some ⟨gb, 0, none⟩) j c) j (rowC ndC (ps.take j)) W) := fun W j hj hb => src_firstC Try.underlying22 wideX (HL.out.cel.below hb) hlen j hj
    have HSD : Hid (∀ W j, j ≤ n → c ≠ j → Below w.heap.size w W → Src Try.prog 5 22 (.slice (some ⟨gb, j * 5, none⟩) (n - j) (c - j)) (n - j) (rowC ndC (ps.drop j)) W) := fun W j hj hcj hb => by
      have := src_lastC Try.underlying22 wideX (HL.out.cel.below hb) hlen j (n - j) (c - j) (by omega)
      rwa [if_neg hcj] at this
    go_enter Try.func51, Try.ntmps51
    go_wp2
    go_loopw [5] (fun v5 wr => ∃ j : Nat, j ≤ n ∧ v5 = .int .i64 j ∧ Below (w.alloc (.cells #[.string q, .bool d, .int .i64 qu, .slice sa sn sc, .int .i64 wb] 25)).heap.size (w.alloc (.cells #[.string q, .bool d, .int .i64 qu, .slice sa sn sc, .int .i64 wb] 25)) wr ∧ ∀ i (hi : i < ys.length), j ≤ i → ltB q ys[i].path = true) (fun v5 _ => (intOf v5).toNat)
    case atStart => exact ⟨n, Nat.le_refl _, rfl, Below.refl _ _, fun i hi h => by have := HYL.out; omega⟩
    case round =>
      obtain ⟨j, hj, rfl, hb, hgt⟩ := hrel
      have HB : Hid (Below (w.alloc (.cells #[.string q, .bool d, .int .i64 qu, .slice sa sn sc, .int .i64 wb] 25)).heap.size (w.alloc (.cells #[.string q, .bool d, .int .i64 qu, .slice sa sn sc, .int .i64 wb] 25)) wr) := hb
      have HGT : Hid (∀ i (hi : i < ys.length), j ≤ i → ltB q ys[i].path = true) := hgt
      have HBW : Hid (Below w.heap.size w wr) := bel_tr (bel_al _ _) hb
      have b0 := bel_cell hb (World.cell?_alloc_new w _ _ 0)
      clear hb
      have FIN0 : True := trivial
      rcases Nat.eq_zero_or_pos j with hj0 | hj0
      · have HEX : Hid (ys.take j ++ [(⟨q, d, qu, bs, wb⟩ : Nd)] ++ ys.drop j = sortN (ys ++ [⟨q, d, qu, bs, wb⟩])) := put_is HA.out HNO.out j (by rw [HYL.out]; exact hj) hgt (fun h => by omega)
        have d0 : decide ((0 : Int) < (j : Int)) = false := decide_eq_false (by omega)
        have d1 : decide (0 < j) = false := decide_eq_false (by omega)
        clear hgt hj0
        go_wp2
        refine wp_region_quiet_below (by kernel_rfl) (by kernel_rfl) ?_
        repeat (first | go_big_quiet_step (fail) | quiet_step (fail))
        refine wpQuiet_nil ?_
        intro _ hw'
        obtain ⟨⟨dq, osq⟩, hw''⟩ := hw'
        subst hw''
        have B1 : Hid (Below wr.heap.size wr (Sort.grow (redrawn wr dq) osq)) := below_regrown wr dq osq
        clear b0
        generalize Sort.grow (redrawn wr dq) osq = w1 at *
        have B01 : Hid (Below (w.alloc (.cells #[.string q, .bool d, .int .i64 qu, .slice sa sn sc, .int .i64 wb] 25)).heap.size (w.alloc (.cells #[.string q, .bool d, .int .i64 qu, .slice sa sn sc, .int .i64 wb] 25)) w1) := bel_tr HB.out B1.out
        have y0 := bel_cell B01.out (World.cell?_alloc_new w _ _ 0)
        have y1 := bel_cell B01.out (World.cell?_alloc_new w _ _ 1)
        have y2 := bel_cell B01.out (World.cell?_alloc_new w _ _ 2)
        have y3 := bel_cell B01.out (World.cell?_alloc_new w _ _ 3)
        have y4 := bel_cell B01.out (World.cell?_alloc_new w _ _ 4)
        have BW1 : Hid (Below w.heap.size w w1) := bel_tr (bel_al _ _) B01.out
        by_cases hcj : c = j
        · have HDR : Hid (ps.drop j = []) := List.drop_of_length_le (by omega)
          have HY : Hid _ := And.intro y0 (And.intro y1 (And.intro y2 (And.intro y3 y4)))
          clear y0 y1 y2 y3 y4
          have M1 : True := trivial
          have M2 : True := trivial
          have M3 : True := trivial
          have M4 : True := trivial
          have hnj0 : n - j = 0 := by omega
          go_wp2_with (first
            | (at_builtin; clear M1; refine wpList_append_celN _ rfl _ _ 22 22 rfl 25 ti _ 5 64 Try.underlying22 hi1 hi2 hi3 hi4 rfl (O := fun k => base ≤ k) _ 0 [] none rfl (.nil rfl rfl rfl) _ j (rowC ndC (ps.take j)) rfl (by have h77 := HSF.out w1 j hj BW1.out; rw [hcj] at h77; exact h77) (by unfold maxLen; omega) (by omega) j (Nat.zero_add _) (rowC ndC (ps.take j)) rfl ?_; intro a2 c2 w2 g2 hC2 hS2 hf2; have HC2 : Hid _ := hC2; have HS2 : Hid _ := hS2; have HG2 : Hid _ := hf2; have B12 : Hid (Below w1.heap.size w1 w2) := stay_none hS2; obtain ⟨y0, y1, y2, y3, y4⟩ := HY.out; have u0 := bel_cell B12.out y0; have u1 := bel_cell B12.out y1; have u2 := bel_cell B12.out y2; have u3 := bel_cell B12.out y3; have u4 := bel_cell B12.out y4; clear hC2 hS2 hf2 y0 y1 y2 y3 y4)
            | (go_at_call 45; clear M4; refine (CC.out _ (bel_tr BW1.out B12.out)).mono ?_; rintro e w3 ⟨⟨s, rfl, hF⟩, c3⟩; have HF : Hid (Free w2.heap.size w3 ((⟨q, d, qu, bs, wb⟩ : Nd), s)) := hF; have B23 : Hid (Below w2.heap.size w2 w3) := c3; clear hF c3; unfold ndV; simp only)
            | (at_builtin; clear M2; refine wpList_append_celN _ rfl _ _ 22 22 rfl 25 ti _ 5 64 Try.underlying22 hi1 hi2 hi3 hi4 rfl (O := fun k => base ≤ k) _ j (rowC ndC (ps.take j)) g2 rfl ((grow_base (base := base) (Nat.le_trans HBB.out BW1.out.size) (fun k hk => hk) HC2.out).below (bel_tr B23.out (bel_al _ _))) _ 1 (rowC ndC [((⟨q, d, qu, bs, wb⟩ : Nd), s)]) rfl (src_new5 w3 ((⟨q, d, qu, bs, wb⟩ : Nd), s)) (by unfold maxLen; omega) (by omega) (j + 1) rfl (rowC ndC (ps.take j ++ [((⟨q, d, qu, bs, wb⟩ : Nd), s)])) (rowC_app _ _).symm ?_; intro a4 c4 w4 g4 hC4 hS4 hf4; have HC4 : Hid _ := hC4; have HS4 : Hid _ := hS4; have HG4 : Hid _ := hf4; have B4W : Hid (Below w.heap.size w w4) := HPRE.out j w1 w2 w3 w4 s _ a2 c2 g2 a4 c4 g4 BW1.out HC2.out HS2.out HG2.out B23.out hC4 hS4; clear hC4 hS4 hf4)
            | (at_builtin; clear M3; refine wpList_append_celN _ rfl _ _ 22 22 rfl 25 ti _ 5 64 Try.underlying22 hi1 hi2 hi3 hi4 rfl (O := fun k => base ≤ k) _ (j + 1) (rowC ndC (ps.take j ++ [((⟨q, d, qu, bs, wb⟩ : Nd), s)])) g4 rfl (HC4.out.stay (Nat.le_refl _) (fun _ _ => rfl) (fun k hk => hk.elim id (fun e => by have h7 := HBB.out; have h8 := BW1.out.size; have h9 := B12.out.size; have h6 := B23.out.size; have := e.1; simp at this; omega))) _ 0 ([]) rfl (src_empty Try.underlying22 _ _ _) (by unfold maxLen; omega) (by omega) (n + 1) (by omega) (rowC ndC (ps.take j ++ [((⟨q, d, qu, bs, wb⟩ : Nd), s)] ++ ps.drop j)) (by rw [rowC_app (ps.take j ++ [((⟨q, d, qu, bs, wb⟩ : Nd), s)]), HDR.out]; simp [rowC]) ?_; intro a5 c5 w5 g5 hC5 hS5 hf5; have HX5 : Hid _ := HFIN.out j w1 w2 w3 w4 w5 s _ a2 c2 g2 a4 c4 g4 a5 c5 g5 (by omega) BW1.out HC2.out HS2.out HG2.out HF.out B23.out HC4.out HS4.out HG4.out hC5 hS5 hf5; clear hC5 hS5 hf5))
          go_ret
          exact ⟨⟨a5, c5, rfl, ⟨ps.take j ++ [((⟨q, d, qu, bs, wb⟩ : Nd), s)] ++ ps.drop j, g5, by rw [List.map_append, List.map_append, List.map_take, List.map_drop, HPS.out]; exact HEX.out, HX5.out.1⟩⟩, HX5.out.2⟩
        · have HCJ : Hid (c ≠ j) := hcj
          have HY : Hid _ := And.intro y0 (And.intro y1 (And.intro y2 (And.intro y3 y4)))
          clear y0 y1 y2 y3 y4
          have M1 : True := trivial
          have M2 : True := trivial
          have M3 : True := trivial
          have M4 : True := trivial
          go_wp2_with (first
            | (at_builtin; clear M1; refine wpList_append_celN _ rfl _ _ 22 22 rfl 25 ti _ 5 64 Try.underlying22 hi1 hi2 hi3 hi4 rfl (O := fun k => base ≤ k) _ 0 [] none rfl (.nil rfl rfl rfl) _ j (rowC ndC (ps.take j)) rfl (HSF.out _ j hj BW1.out) (by unfold maxLen; omega) (by omega) j (Nat.zero_add _) (rowC ndC (ps.take j)) rfl ?_; intro a2 c2 w2 g2 hC2 hS2 hf2; have HC2 : Hid _ := hC2; have HS2 : Hid _ := hS2; have HG2 : Hid _ := hf2; have B12 : Hid (Below w1.heap.size w1 w2) := stay_none hS2; obtain ⟨y0, y1, y2, y3, y4⟩ := HY.out; have u0 := bel_cell B12.out y0; have u1 := bel_cell B12.out y1; have u2 := bel_cell B12.out y2; have u3 := bel_cell B12.out y3; have u4 := bel_cell B12.out y4; clear hC2 hS2 hf2 y0 y1 y2 y3 y4)
            | (go_at_call 45; clear M4; refine (CC.out _ (bel_tr BW1.out B12.out)).mono ?_; rintro e w3 ⟨⟨s, rfl, hF⟩, c3⟩; have HF : Hid (Free w2.heap.size w3 ((⟨q, d, qu, bs, wb⟩ : Nd), s)) := hF; have B23 : Hid (Below w2.heap.size w2 w3) := c3; clear hF c3; unfold ndV; simp only)
            | (at_builtin; clear M2; refine wpList_append_celN _ rfl _ _ 22 22 rfl 25 ti _ 5 64 Try.underlying22 hi1 hi2 hi3 hi4 rfl (O := fun k => base ≤ k) _ j (rowC ndC (ps.take j)) g2 rfl ((grow_base (base := base) (Nat.le_trans HBB.out BW1.out.size) (fun k hk => hk) HC2.out).below (bel_tr B23.out (bel_al _ _))) _ 1 (rowC ndC [((⟨q, d, qu, bs, wb⟩ : Nd), s)]) rfl (src_new5 w3 ((⟨q, d, qu, bs, wb⟩ : Nd), s)) (by unfold maxLen; omega) (by omega) (j + 1) rfl (rowC ndC (ps.take j ++ [((⟨q, d, qu, bs, wb⟩ : Nd), s)])) (rowC_app _ _).symm ?_; intro a4 c4 w4 g4 hC4 hS4 hf4; have HC4 : Hid _ := hC4; have HS4 : Hid _ := hS4; have HG4 : Hid _ := hf4; have B4W : Hid (Below w.heap.size w w4) := HPRE.out j w1 w2 w3 w4 s _ a2 c2 g2 a4 c4 g4 BW1.out HC2.out HS2.out HG2.out B23.out hC4 hS4; clear hC4 hS4 hf4)
            | (at_builtin; clear M3; refine wpList_append_celN _ rfl _ _ 22 22 rfl 25 ti _ 5 64 Try.underlying22 hi1 hi2 hi3 hi4 rfl (O := fun k => base ≤ k) _ (j + 1) (rowC ndC (ps.take j ++ [((⟨q, d, qu, bs, wb⟩ : Nd), s)])) g4 rfl (HC4.out.stay (Nat.le_refl _) (fun _ _ => rfl) (fun k hk => hk.elim id (fun e => by have h7 := HBB.out; have h8 := BW1.out.size; have h9 := B12.out.size; have h6 := B23.out.size; have := e.1; simp at this; omega))) _ (n - j) (rowC ndC (ps.drop j)) rfl (HSD.out _ j hj HCJ.out B4W.out) (by unfold maxLen; omega) (by omega) (n + 1) (by omega) (rowC ndC (ps.take j ++ [((⟨q, d, qu, bs, wb⟩ : Nd), s)] ++ ps.drop j)) ((rowC_app _ _).symm) ?_; intro a5 c5 w5 g5 hC5 hS5 hf5; have HX5 : Hid _ := HFIN.out j w1 w2 w3 w4 w5 s _ a2 c2 g2 a4 c4 g4 a5 c5 g5 (by omega) BW1.out HC2.out HS2.out HG2.out HF.out B23.out HC4.out HS4.out HG4.out hC5 hS5 hf5; clear hC5 hS5 hf5))
          go_ret
          exact ⟨⟨a5, c5, rfl, ⟨ps.take j ++ [((⟨q, d, qu, bs, wb⟩ : Nd), s)] ++ ps.drop j, g5, by rw [List.map_append, List.map_append, List.map_take, List.map_drop, HPS.out]; exact HEX.out, HX5.out.1⟩⟩, HX5.out.2⟩
      · obtain ⟨j1, hj1⟩ : ∃ j1, j = j1 + 1 := ⟨j - 1, by omega⟩
        have hj1y : j1 < ys.length := by rw [HYL.out]; omega
        have pc := HPC.out wr j1 hj1y HBW.out
        have hji : (j : Int) - 1 = (j1 : Int) := by omega
        have hj1n : j1 < n := by omega
        have d0 : decide ((0 : Int) < (j : Int)) = true := decide_eq_true (by omega)
        have d1 : decide (0 < j) = true := decide_eq_true (by omega)
        have gt := gt_is ys[j1].path q
        have HE2 : Hid (∀ h : 0 < j, ltB q (ys[j - 1]'(by omega)).path = ltB q ys[j1].path) := fun _ => by
          have e : j - 1 = j1 := by omega
          simp only [e]
        have HGT2 : Hid (ltB q ys[j1].path = true → ∀ i (hi : i < ys.length), j1 ≤ i → ltB q ys[i].path = true) := fun e i hi h => by
          rcases Nat.lt_or_ge i j with h3 | h3
          · obtain rfl : i = j1 := by omega
            exact e
          · exact hgt i hi h3
        cases hl : ltB q ys[j1].path with
        | true =>
          have HG3 : Hid _ := HGT2.out hl
          rw [hl] at gt
          have r0 := fun dd os => cell_regrown b0 dd os
          have r1 := fun dd os => cell_regrown pc dd os
          have gtb : Op.bytesLess ys[j1].path.toList q.toList = false := ltB_asymm hl
          have gte : (ys[j1].path.toList == q.toList) = false := by rw [same_eq, decide_eq_false]; exact (ltB_ne hl).symm
          clear hgt hl HE2 HGT2 gt b0 pc
          generalize ys[j1].path = pj at *
          go_wp2
          refine wp_region_quiet_below (by kernel_rfl) (by kernel_rfl) ?_
          repeat (first | go_big_quiet_step (fail) | quiet_step (fail))
          refine wpQuiet_nil ?_
          intro _ hw'
          obtain ⟨⟨dq, osq⟩, hw''⟩ := hw'
          subst hw''
          have B1 : Hid (Below wr.heap.size wr (Sort.grow (redrawn wr dq) osq)) := below_regrown wr dq osq
          clear r0 r1
          generalize Sort.grow (redrawn wr dq) osq = w1 at *
          go_wp2
          go_roundw
          case rel => exact ⟨j1, by omega, by go_num, bel_tr HB.out B1.out, HG3.out⟩
          case measure => simp [intOf]; omega
        | false =>
          have HEX : Hid (ys.take j ++ [(⟨q, d, qu, bs, wb⟩ : Nd)] ++ ys.drop j = sortN (ys ++ [⟨q, d, qu, bs, wb⟩])) := put_is HA.out HNO.out j (by rw [HYL.out]; exact hj) hgt (fun h => (HE2.out h).trans hl)
          have r0 := fun dd os => cell_regrown b0 dd os
          have r1 := fun dd os => cell_regrown pc dd os
          have gcs := le_of_not hl
          have hj1e : Hid (j = j1 + 1) := hj1
          clear hgt hl HE2 HGT2 gt b0 pc hj0 hj1
          generalize ys[j1].path = pj at *
          rcases gcs with g1 | ⟨g1, g2⟩
          all_goals
            go_wp2
            refine wp_region_quiet_below (by kernel_rfl) (by kernel_rfl) ?_
            repeat (first | go_big_quiet_step (fail) | quiet_step (fail))
            refine wpQuiet_nil ?_
            intro _ hw'
            obtain ⟨⟨dq, osq⟩, hw''⟩ := hw'
            subst hw''
            have B1 : Hid (Below wr.heap.size wr (Sort.grow (redrawn wr dq) osq)) := below_regrown wr dq osq
            clear r0 r1
            generalize Sort.grow (redrawn wr dq) osq = w1 at *
            have B01 : Hid (Below (w.alloc (.cells #[.string q, .bool d, .int .i64 qu, .slice sa sn sc, .int .i64 wb] 25)).heap.size (w.alloc (.cells #[.string q, .bool d, .int .i64 qu, .slice sa sn sc, .int .i64 wb] 25)) w1) := bel_tr HB.out B1.out
            have y0 := bel_cell B01.out (World.cell?_alloc_new w _ _ 0)
            have y1 := bel_cell B01.out (World.cell?_alloc_new w _ _ 1)
            have y2 := bel_cell B01.out (World.cell?_alloc_new w _ _ 2)
            have y3 := bel_cell B01.out (World.cell?_alloc_new w _ _ 3)
            have y4 := bel_cell B01.out (World.cell?_alloc_new w _ _ 4)
            have BW1 : Hid (Below w.heap.size w w1) := bel_tr (bel_al _ _) B01.out
            by_cases hcj : c = j
            · have HDR : Hid (ps.drop j = []) := List.drop_of_length_le (by omega)
              have HY : Hid _ := And.intro y0 (And.intro y1 (And.intro y2 (And.intro y3 y4)))
              clear y0 y1 y2 y3 y4
              have M1 : True := trivial
              have M2 : True := trivial
              have M3 : True := trivial
              have M4 : True := trivial
              have hnj0 : n - j = 0 := by omega
              go_wp2_with (first
                | (at_builtin; clear M1; refine wpList_append_celN _ rfl _ _ 22 22 rfl 25 ti _ 5 64 Try.underlying22 hi1 hi2 hi3 hi4 rfl (O := fun k => base ≤ k) _ 0 [] none rfl (.nil rfl rfl rfl) _ j (rowC ndC (ps.take j)) rfl (by have h77 := HSF.out w1 j hj BW1.out; rw [hcj] at h77; exact h77) (by unfold maxLen; omega) (by omega) j (Nat.zero_add _) (rowC ndC (ps.take j)) rfl ?_; intro a2 c2 w2 g2 hC2 hS2 hf2; have HC2 : Hid _ := hC2; have HS2 : Hid _ := hS2; have HG2 : Hid _ := hf2; have B12 : Hid (Below w1.heap.size w1 w2) := stay_none hS2; obtain ⟨y0, y1, y2, y3, y4⟩ := HY.out; have u0 := bel_cell B12.out y0; have u1 := bel_cell B12.out y1; have u2 := bel_cell B12.out y2; have u3 := bel_cell B12.out y3; have u4 := bel_cell B12.out y4; clear hC2 hS2 hf2 y0 y1 y2 y3 y4)
                | (go_at_call 45; clear M4; refine (CC.out _ (bel_tr BW1.out B12.out)).mono ?_; rintro e w3 ⟨⟨s, rfl, hF⟩, c3⟩; have HF : Hid (Free w2.heap.size w3 ((⟨q, d, qu, bs, wb⟩ : Nd), s)) := hF; have B23 : Hid (Below w2.heap.size w2 w3) := c3; clear hF c3; unfold ndV; simp only)
                | (at_builtin; clear M2; refine wpList_append_celN _ rfl _ _ 22 22 rfl 25 ti _ 5 64 Try.underlying22 hi1 hi2 hi3 hi4 rfl (O := fun k => base ≤ k) _ j (rowC ndC (ps.take j)) g2 rfl ((grow_base (base := base) (Nat.le_trans HBB.out BW1.out.size) (fun k hk => hk) HC2.out).below (bel_tr B23.out (bel_al _ _))) _ 1 (rowC ndC [((⟨q, d, qu, bs, wb⟩ : Nd), s)]) rfl (src_new5 w3 ((⟨q, d, qu, bs, wb⟩ : Nd), s)) (by unfold maxLen; omega) (by omega) (j + 1) rfl (rowC ndC (ps.take j ++ [((⟨q, d, qu, bs, wb⟩ : Nd), s)])) (rowC_app _ _).symm ?_; intro a4 c4 w4 g4 hC4 hS4 hf4; have HC4 : Hid _ := hC4; have HS4 : Hid _ := hS4; have HG4 : Hid _ := hf4; have B4W : Hid (Below w.heap.size w w4) := HPRE.out j w1 w2 w3 w4 s _ a2 c2 g2 a4 c4 g4 BW1.out HC2.out HS2.out HG2.out B23.out hC4 hS4; clear hC4 hS4 hf4)
                | (at_builtin; clear M3; refine wpList_append_celN _ rfl _ _ 22 22 rfl 25 ti _ 5 64 Try.underlying22 hi1 hi2 hi3 hi4 rfl (O := fun k => base ≤ k) _ (j + 1) (rowC ndC (ps.take j ++ [((⟨q, d, qu, bs, wb⟩ : Nd), s)])) g4 rfl (HC4.out.stay (Nat.le_refl _) (fun _ _ => rfl) (fun k hk => hk.elim id (fun e => by have h7 := HBB.out; have h8 := BW1.out.size; have h9 := B12.out.size; have h6 := B23.out.size; have := e.1; simp at this; omega))) _ 0 ([]) rfl (src_empty Try.underlying22 _ _ _) (by unfold maxLen; omega) (by omega) (n + 1) (by omega) (rowC ndC (ps.take j ++ [((⟨q, d, qu, bs, wb⟩ : Nd), s)] ++ ps.drop j)) (by rw [rowC_app (ps.take j ++ [((⟨q, d, qu, bs, wb⟩ : Nd), s)]), HDR.out]; simp [rowC]) ?_; intro a5 c5 w5 g5 hC5 hS5 hf5; have HX5 : Hid _ := HFIN.out j w1 w2 w3 w4 w5 s _ a2 c2 g2 a4 c4 g4 a5 c5 g5 (by omega) BW1.out HC2.out HS2.out HG2.out HF.out B23.out HC4.out HS4.out HG4.out hC5 hS5 hf5; clear hC5 hS5 hf5))
              go_ret
              exact ⟨⟨a5, c5, rfl, ⟨ps.take j ++ [((⟨q, d, qu, bs, wb⟩ : Nd), s)] ++ ps.drop j, g5, by rw [List.map_append, List.map_append, List.map_take, List.map_drop, HPS.out]; exact HEX.out, HX5.out.1⟩⟩, HX5.out.2⟩
            · have HCJ : Hid (c ≠ j) := hcj
              have HY : Hid _ := And.intro y0 (And.intro y1 (And.intro y2 (And.intro y3 y4)))
              clear y0 y1 y2 y3 y4
              have M1 : True := trivial
              have M2 : True := trivial
              have M3 : True := trivial
              have M4 : True := trivial
              go_wp2_with (first
                | (at_builtin; clear M1; refine wpList_append_celN _ rfl _ _ 22 22 rfl 25 ti _ 5 64 Try.underlying22 hi1 hi2 hi3 hi4 rfl (O := fun k => base ≤ k) _ 0 [] none rfl (.nil rfl rfl rfl) _ j (rowC ndC (ps.take j)) rfl (HSF.out _ j hj BW1.out) (by unfold maxLen; omega) (by omega) j (Nat.zero_add _) (rowC ndC (ps.take j)) rfl ?_; intro a2 c2 w2 g2 hC2 hS2 hf2; have HC2 : Hid _ := hC2; have HS2 : Hid _ := hS2; have HG2 : Hid _ := hf2; have B12 : Hid (Below w1.heap.size w1 w2) := stay_none hS2; obtain ⟨y0, y1, y2, y3, y4⟩ := HY.out; have u0 := bel_cell B12.out y0; have u1 := bel_cell B12.out y1; have u2 := bel_cell B12.out y2; have u3 := bel_cell B12.out y3; have u4 := bel_cell B12.out y4; clear hC2 hS2 hf2 y0 y1 y2 y3 y4)
                | (go_at_call 45; clear M4; refine (CC.out _ (bel_tr BW1.out B12.out)).mono ?_; rintro e w3 ⟨⟨s, rfl, hF⟩, c3⟩; have HF : Hid (Free w2.heap.size w3 ((⟨q, d, qu, bs, wb⟩ : Nd), s)) := hF; have B23 : Hid (Below w2.heap.size w2 w3) := c3; clear hF c3; unfold ndV; simp only)
                | (at_builtin; clear M2; refine wpList_append_celN _ rfl _ _ 22 22 rfl 25 ti _ 5 64 Try.underlying22 hi1 hi2 hi3 hi4 rfl (O := fun k => base ≤ k) _ j (rowC ndC (ps.take j)) g2 rfl ((grow_base (base := base) (Nat.le_trans HBB.out BW1.out.size) (fun k hk => hk) HC2.out).below (bel_tr B23.out (bel_al _ _))) _ 1 (rowC ndC [((⟨q, d, qu, bs, wb⟩ : Nd), s)]) rfl (src_new5 w3 ((⟨q, d, qu, bs, wb⟩ : Nd), s)) (by unfold maxLen; omega) (by omega) (j + 1) rfl (rowC ndC (ps.take j ++ [((⟨q, d, qu, bs, wb⟩ : Nd), s)])) (rowC_app _ _).symm ?_; intro a4 c4 w4 g4 hC4 hS4 hf4; have HC4 : Hid _ := hC4; have HS4 : Hid _ := hS4; have HG4 : Hid _ := hf4; have B4W : Hid (Below w.heap.size w w4) := HPRE.out j w1 w2 w3 w4 s _ a2 c2 g2 a4 c4 g4 BW1.out HC2.out HS2.out HG2.out B23.out hC4 hS4; clear hC4 hS4 hf4)
                | (at_builtin; clear M3; refine wpList_append_celN _ rfl _ _ 22 22 rfl 25 ti _ 5 64 Try.underlying22 hi1 hi2 hi3 hi4 rfl (O := fun k => base ≤ k) _ (j + 1) (rowC ndC (ps.take j ++ [((⟨q, d, qu, bs, wb⟩ : Nd), s)])) g4 rfl (HC4.out.stay (Nat.le_refl _) (fun _ _ => rfl) (fun k hk => hk.elim id (fun e => by have h7 := HBB.out; have h8 := BW1.out.size; have h9 := B12.out.size; have h6 := B23.out.size; have := e.1; simp at this; omega))) _ (n - j) (rowC ndC (ps.drop j)) rfl (HSD.out _ j hj HCJ.out B4W.out) (by unfold maxLen; omega) (by omega) (n + 1) (by omega) (rowC ndC (ps.take j ++ [((⟨q, d, qu, bs, wb⟩ : Nd), s)] ++ ps.drop j)) ((rowC_app _ _).symm) ?_; intro a5 c5 w5 g5 hC5 hS5 hf5; have HX5 : Hid _ := HFIN.out j w1 w2 w3 w4 w5 s _ a2 c2 g2 a4 c4 g4 a5 c5 g5 (by omega) BW1.out HC2.out HS2.out HG2.out HF.out B23.out HC4.out HS4.out HG4.out hC5 hS5 hf5; clear hC5 hS5 hf5))
              go_ret
              exact ⟨⟨a5, c5, rfl, ⟨ps.take j ++ [((⟨q, d, qu, bs, wb⟩ : Nd), s)] ++ ps.drop j, g5, by rw [List.map_append, List.map_append, List.map_take, List.map_drop, HPS.out]; exact HEX.out, HX5.out.1⟩⟩, HX5.out.2⟩

end Go.Proofs.Ytdcmhbodjmajcaa
