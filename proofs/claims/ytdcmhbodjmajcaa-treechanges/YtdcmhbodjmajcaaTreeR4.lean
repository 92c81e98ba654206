/- The contracts of tabulariumlaw07.copied, tabulariumref07.all, put. -/
import Derived.Test.YtdcmhbodjmajcaaTreeR3
namespace Go.Proofs.Ytdcmhbodjmajcaa
open Go.RowKit

set_option maxRecDepth 100000 in
set_option maxHeartbeats 2000000 in
theorem lawCopied_val {a : Option Addr} {n c : Nat} {xs : NS} {w : World} (h : NL w a n xs) (hz : n * 64 ≤ 140737488355328) (hbz : ∀ x ∈ xs, x.bs.length * 24 ≤ 140737488355328) :
    Calls Try.prog 19 #[.slice a n c] w fun e w' => ListR w.heap.size xs n e w' ∧ Below w.heap.size w w' := by
  obtain ⟨ti, hi1, hi2, hi3, hi4⟩ := ndRow
  obtain ⟨b, off, ps, k1, k2, k3⟩ := h.ex
  have HK : Hid (Nds w a b off ps) := k3
  have HP : Hid (ps.length = n) := by show ps.length = n; rw [← k2, ← k1, List.length_map]
  have HM : Hid (ps.map (·.1) = xs) := k1
  have H8 : Hid (∀ x ∈ xs, x.bs.length * 24 ≤ 140737488355328) := hbz
  have hn2 : n ≤ 2199023255552 := by omega
  clear h k1 k2 k3 hbz
  go_enter Try.func19, Try.ntmps19
  go_wp2
  go_loopw [3, 4] (fun v3 v4 wr => ∃ (i : Nat) (fa : Option Addr) (fc : Nat) (qs : List NR) (g : Option Nat), i ≤ n ∧ v4 = .int .i64 i ∧ v3 = .slice fa i fc ∧ Lot w.heap.size wr fa i fc qs g ∧ qs.map (·.1) = xs.take i ∧ Below w.heap.size w wr) (fun _ v4 _ => n - (intOf v4).toNat)
  case atStart => exact ⟨0, none, 0, [], none, by omega, rfl, rfl, ⟨.nil rfl rfl rfl, rfl, fun x hx => (by cases hx), fun x hx => (by cases hx)⟩, rfl, Below.refl _ _⟩
  case round =>
    obtain ⟨i, fa, fc, qs, g, hi, rfl, rfl, hL, hq, hb⟩ := hrel
    have HB : Hid (Below w.heap.size w wr) := hb
    have HL : Hid (Lot w.heap.size wr fa i fc qs g) := hL
    have HQ : Hid (qs.map (·.1) = xs.take i) := hq
    by_cases hlt : i < n
    · have hip : i < ps.length := by rw [HP.out]; exact hlt
      have hix : i < xs.length := by rw [← HM.out, List.length_map]; exact hip
      have hK := HK.out.below hb
      obtain ⟨e0, e1, e2, e3, e4⟩ := hK.at hip
      obtain rfl := hK.addr (by omega)
      have hok := hK.ok _ (List.getElem_mem hip)
      have exi : ps[i].1 = xs[i] := by
        have := HM.out
        subst this
        simp
      have HFT : Hid (xs.take (i + 1) = xs.take i ++ [ps[i].1]) := by show _ = _; rw [exi]; exact List.take_succ_eq_append_getElem hix
      have h8i : ps[i].2.n * 24 ≤ 140737488355328 := by
        rw [← hok.bs.len, exi]
        exact H8.out _ (List.getElem_mem hix)
      have CC : Hid (Calls Try.prog 45 #[ndV ps[i]] wr fun e w' => CopyR wr.heap.size ps[i].1 e w' ∧ Below wr.heap.size wr w') := refCopy_val ps[i] wr hok h8i
      clear hb hL hq hok exi hix h8i hK
      generalize ps[i] = x at *
      obtain ⟨⟨p, d, q, bs, wb⟩, ⟨sa, sn, sc⟩⟩ := x
      unfold ndV at CC
      simp only at e0 e1 e2 e3 e4 CC HFT
      go_wp2_with (first
        | (go_at_call 45; refine CC.out.mono ?_; rintro e w2 ⟨⟨s, rfl, hF⟩, c2⟩; have HF2 : Hid (Free wr.heap.size w2 (⟨p, d, q, bs, wb⟩, s)) := hF; have B2 : Hid (Below wr.heap.size wr w2) := c2; clear hF c2; unfold ndV; simp only)
        | (at_builtin; refine wpList_append_cel _ rfl _ _ 22 22 rfl 25 ti _ 5 64 Try.underlying22 hi1 hi2 hi3 hi4 rfl (O := fun k => w.heap.size ≤ k) _ i _ g rfl ((HL.out.below (bel_tr B2.out (bel_al _ _))).cel) _ 1 (rowC ndC [(⟨p, d, q, bs, wb⟩, s)]) rfl (src_new5 w2 (⟨p, d, q, bs, wb⟩, s)) (by unfold maxLen; omega) (by omega) ?_; intro a5 c5 w5 g5 hC5 hS5 hf5; have HX : Hid _ := HL.out.push HB.out.size HF2.out B2.out hC5 hS5 hf5; clear hC5 hS5 hf5))
      go_roundw
      case rel => exact ⟨i + 1, a5, c5, qs ++ [(⟨p, d, q, bs, wb⟩, s)], g5, by omega, by go_num, rfl, HX.out.1, by rw [List.map_append, HFT.out, HQ.out]; rfl, HB.out.trans HX.out.2⟩
      case measure => simp [intOf]; omega
    · obtain rfl : i = n := by omega
      have hgd : decide ((i : Int) < (i : Int)) = false := decide_eq_false (by omega)
      have HX : Hid (LX w.heap.size wr fa i fc xs) := ⟨qs, g, by rw [hq, List.take_of_length_le (by rw [← HM.out, List.length_map, HP.out]; omega)], hL⟩
      clear hb hL hq hlt
      go_wp2
      go_ret
      exact ⟨⟨fa, fc, rfl, HX.out⟩, HB.out⟩

set_option maxRecDepth 100000 in
set_option maxHeartbeats 2000000 in
theorem refAll_val {a : Option Addr} {n c : Nat} {xs : NS} {w : World} (h : NL w a n xs) (hz : n * 64 ≤ 140737488355328) (hbz : ∀ x ∈ xs, x.bs.length * 24 ≤ 140737488355328) :
    Calls Try.prog 52 #[.slice a n c] w fun e w' => ListR w.heap.size xs n e w' ∧ Below w.heap.size w w' := by
  obtain ⟨ti, hi1, hi2, hi3, hi4⟩ := ndRow
  obtain ⟨b, off, ps, k1, k2, k3⟩ := h.ex
  have HK : Hid (Nds w a b off ps) := k3
  have HP : Hid (ps.length = n) := by show ps.length = n; rw [← k2, ← k1, List.length_map]
  have HM : Hid (ps.map (·.1) = xs) := k1
  have H8 : Hid (∀ x ∈ xs, x.bs.length * 24 ≤ 140737488355328) := hbz
  have hn2 : n ≤ 2199023255552 := by omega
  clear h k1 k2 k3 hbz
  go_enter Try.func52, Try.ntmps52
  go_wp2
  go_loopw [3, 4] (fun v3 v4 wr => ∃ (i : Nat) (fa : Option Addr) (fc : Nat) (qs : List NR) (g : Option Nat), i ≤ n ∧ v4 = .int .i64 i ∧ v3 = .slice fa i fc ∧ Lot w.heap.size wr fa i fc qs g ∧ qs.map (·.1) = xs.take i ∧ Below w.heap.size w wr) (fun _ v4 _ => n - (intOf v4).toNat)
  case atStart => exact ⟨0, none, 0, [], none, by omega, rfl, rfl, ⟨.nil rfl rfl rfl, rfl, fun x hx => (by cases hx), fun x hx => (by cases hx)⟩, rfl, Below.refl _ _⟩
  case round =>
    obtain ⟨i, fa, fc, qs, g, hi, rfl, rfl, hL, hq, hb⟩ := hrel
    have HB : Hid (Below w.heap.size w wr) := hb
    have HL : Hid (Lot w.heap.size wr fa i fc qs g) := hL
    have HQ : Hid (qs.map (·.1) = xs.take i) := hq
    by_cases hlt : i < n
    · have hip : i < ps.length := by rw [HP.out]; exact hlt
      have hix : i < xs.length := by rw [← HM.out, List.length_map]; exact hip
      have hK := HK.out.below hb
      obtain ⟨e0, e1, e2, e3, e4⟩ := hK.at hip
      obtain rfl := hK.addr (by omega)
      have hok := hK.ok _ (List.getElem_mem hip)
      have exi : ps[i].1 = xs[i] := by
        have := HM.out
        subst this
        simp
      have HFT : Hid (xs.take (i + 1) = xs.take i ++ [ps[i].1]) := by show _ = _; rw [exi]; exact List.take_succ_eq_append_getElem hix
      have h8i : ps[i].2.n * 24 ≤ 140737488355328 := by
        rw [← hok.bs.len, exi]
        exact H8.out _ (List.getElem_mem hix)
      have CC : Hid (Calls Try.prog 45 #[ndV ps[i]] wr fun e w' => CopyR wr.heap.size ps[i].1 e w' ∧ Below wr.heap.size wr w') := refCopy_val ps[i] wr hok h8i
      clear hb hL hq hok exi hix h8i hK
      generalize ps[i] = x at *
      obtain ⟨⟨p, d, q, bs, wb⟩, ⟨sa, sn, sc⟩⟩ := x
      unfold ndV at CC
      simp only at e0 e1 e2 e3 e4 CC HFT
      go_wp2_with (first
        | (go_at_call 45; refine CC.out.mono ?_; rintro e w2 ⟨⟨s, rfl, hF⟩, c2⟩; have HF2 : Hid (Free wr.heap.size w2 (⟨p, d, q, bs, wb⟩, s)) := hF; have B2 : Hid (Below wr.heap.size wr w2) := c2; clear hF c2; unfold ndV; simp only)
        | (at_builtin; refine wpList_append_cel _ rfl _ _ 22 22 rfl 25 ti _ 5 64 Try.underlying22 hi1 hi2 hi3 hi4 rfl (O := fun k => w.heap.size ≤ k) _ i _ g rfl ((HL.out.below (bel_tr B2.out (bel_al _ _))).cel) _ 1 (rowC ndC [(⟨p, d, q, bs, wb⟩, s)]) rfl (src_new5 w2 (⟨p, d, q, bs, wb⟩, s)) (by unfold maxLen; omega) (by omega) ?_; intro a5 c5 w5 g5 hC5 hS5 hf5; have HX : Hid _ := HL.out.push HB.out.size HF2.out B2.out hC5 hS5 hf5; clear hC5 hS5 hf5))
      go_roundw
      case rel => exact ⟨i + 1, a5, c5, qs ++ [(⟨p, d, q, bs, wb⟩, s)], g5, by omega, by go_num, rfl, HX.out.1, by rw [List.map_append, HFT.out, HQ.out]; rfl, HB.out.trans HX.out.2⟩
      case measure => simp [intOf]; omega
    · obtain rfl : i = n := by omega
      have hgd : decide ((i : Int) < (i : Int)) = false := decide_eq_false (by omega)
      have HX : Hid (LX w.heap.size wr fa i fc xs) := ⟨qs, g, by rw [hq, List.take_of_length_le (by rw [← HM.out, List.length_map, HP.out]; omega)], hL⟩
      clear hb hL hq hlt
      go_wp2
      go_ret
      exact ⟨⟨fa, fc, rfl, HX.out⟩, HB.out⟩

/-- A node in its place. -/
theorem put_is {ys : NS} {x : Nd} (ha : Asc ys) (hx : at? ys x.path = none) (j : Nat) (hj : j ≤ ys.length) (h1 : ∀ i (hi : i < ys.length), j ≤ i → ltB x.path ys[i].path = true) (h2 : ∀ h : 0 < j, ltB x.path (ys[j - 1]'(by omega)).path = false) : ys.take j ++ [x] ++ ys.drop j = sortN (ys ++ [x]) := by
  refine sortN_is ?_ ?_
  · have e1 : (ys.take j ++ [x] ++ ys.drop j).Perm (ys.take j ++ ys.drop j ++ [x]) := by
      rw [List.append_assoc, List.append_assoc]
      exact List.Perm.append_left _ List.perm_append_comm
    rw [List.take_append_drop] at e1
    exact e1
  · have hg := ha
    unfold Asc at hg ⊢
    rw [List.pairwise_iff_getElem] at hg
    have hlast : ∀ i (hi : i < ys.length), i < j → ltB ys[i].path x.path = true := fun i hi hij => by
      have h3 := h2 (by omega)
      have h4 : ltB (ys[j - 1]'(by omega)).path x.path = true := by
        cases e : ltB (ys[j - 1]'(by omega)).path x.path with
        | true => rfl
        | false => exact absurd (ltB_tri e h3) (at_none hx _ (List.getElem_mem _))
      rcases Nat.lt_or_ge i (j - 1) with h5 | h5
      · exact ltB_trans (hg i (j - 1) hi (by omega) h5) h4
      · obtain rfl : i = j - 1 := by omega
        exact h4
    rw [List.pairwise_append, List.pairwise_append]
    refine ⟨⟨List.Pairwise.take ha, List.pairwise_singleton _ _, fun a hA b hb => ?_⟩, List.Pairwise.drop ha, fun a hA b hb => ?_⟩
    · rw [List.mem_singleton.1 hb]
      obtain ⟨i, hi, rfl⟩ := List.getElem_of_mem hA
      rw [List.length_take] at hi
      rw [List.getElem_take]
      exact hlast i (by omega) (by omega)
    · obtain ⟨i2, hi2, rfl⟩ := List.getElem_of_mem hb
      rw [List.length_drop] at hi2
      rw [List.getElem_drop]
      rcases List.mem_append.1 hA with hA | hA
      · obtain ⟨i, hi, rfl⟩ := List.getElem_of_mem hA
        rw [List.length_take] at hi
        rw [List.getElem_take]
        exact hg i (j + i2) (by omega) (by omega) (by omega)
      · rw [List.mem_singleton.1 hA]
        exact h1 (j + i2) (by omega) (by omega)

theorem gt_is (a b : ByteArray) : (!(Op.bytesLess a.toList b.toList || a.toList == b.toList)) = ltB b a := by
  cases e : ltB b a with
  | true =>
    have g1 : Op.bytesLess a.toList b.toList = false := ltB_asymm e
    have g2 : (a.toList == b.toList) = false := by rw [same_eq, decide_eq_false]; exact (ltB_ne e).symm
    rw [g1, g2]; rfl
  | false =>
    rcases le_of_not e with g1 | ⟨g1, g2⟩
    · rw [g1]; rfl
    · rw [g1, g2]; rfl

theorem Lot.take_free {base : Nat} {w : World} {a : Option Addr} {n c : Nat} {ps : List NR} {g : Option Nat} (h : Lot base w a n c ps g) {W : World} (hb : Below w.heap.size w W) : ∀ x ∈ ps, Free base W x ∧ ∀ k, x.2.blk = some k → k < w.heap.size := fun x hx => ⟨(h.below hb).ok x hx, (h.ok x hx).ok.bs.lt⟩

end Go.Proofs.Ytdcmhbodjmajcaa
