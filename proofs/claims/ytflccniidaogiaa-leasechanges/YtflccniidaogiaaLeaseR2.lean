/- The contracts of tabulariumref09.Until, Late, without, Drop. -/
import Derived.Test.YtflccniidaogiaaLeaseR1
namespace Go.Proofs.Ytflccniidaogiaa.Lea
open Go.RowKit Go.Proofs.Ytflccniidaogiaa

set_option maxRecDepth 100000 in
set_option maxHeartbeats 2000000 in
theorem refUntil_val {a : Option Addr} {n c : Nat} {xs : LS} {w : World} (h : LL w a n c xs) (k u : Int) (v : Bool) (hv : untilX xs k = (u, v)) :
    Calls Try.prog 9 #[.slice a n c, .int .i64 k] w fun e w' => e = .returned (.tuple #[.int .i64 u, .bool v]) ∧ Below w.heap.size w w' := by
  have HC : Hid (LL w a n c xs) := h
  have HN : Hid (xs.length = n) := h.len
  have hlid := h.lid
  have hroom := h.room
  unfold maxLen at hlid
  have hn63 : n ≤ 9223372036854775807 := by omega
  clear hlid hroom
  by_cases hr : Rt xs
  · have HR : Hid (true = true ↔ Rt xs) := ⟨fun _ => hr, fun _ => rfl⟩
    rw [untilX_yes hr] at hv
    have HV : Hid (findX xs k = (u, v)) := hv
    clear h hr hv
    go_enter Try.func9, Try.ntmps9
    go_wp2_with (go_at_call 14; refine (refRight_val HC.out true HR.out).mono ?_; rintro e w1 ⟨rfl, c1⟩)
    have C1 : Hid (Below w.heap.size w w1) := c1
    clear c1
    go_loopw [7] (fun v7 wr => ∃ i : Nat, i ≤ n ∧ v7 = .int .i64 i ∧ Below w.heap.size w wr ∧ ∀ j (hj : j < xs.length), j < i → xs[j].c ≠ k) (fun v7 _ => n - (intOf v7).toNat)
    case atStart => exact ⟨0, by omega, rfl, C1.out, fun j hj h0 => by omega⟩
    case round =>
      obtain ⟨i, hi, rfl, hb, hall⟩ := hrel
      have HB : Hid (Below w.heap.size w wr) := hb
      by_cases hlt : i < n
      · have hix : i < xs.length := by rw [HN.out]; exact hlt
        obtain ⟨b, off, rfl, hat⟩ := (HC.out.below hb).at (by omega)
        obtain ⟨e0, e1⟩ := hat i hix
        by_cases hx : xs[i].c = k
        · have hf := find_here hix hx hall
          rw [HV.out] at hf
          simp only [Prod.mk.injEq] at hf
          obtain ⟨hu, rfl⟩ := hf
          have HU : Hid (u = xs[i].u) := hu
          have hxb : (xs[i].c == k) = true := by simpa using hx
          clear hall hat hb hx HV hu
          generalize xs[i].c = cc at *
          generalize xs[i].u = uu at *
          go_wp2
          go_ret2
          exact ⟨by rw [HU.out]; rfl, HB.out⟩
        · have HX : Hid (∀ j (hj : j < xs.length), j < i + 1 → xs[j].c ≠ k) := fun j hj hji => by
            rcases Nat.lt_or_ge j i with h | h
            · exact hall j hj h
            · obtain rfl : j = i := by omega
              exact hx
          have hxb : (xs[i].c == k) = false := by simpa using hx
          clear hall hat hb hx
          generalize xs[i].c = cc at *
          generalize xs[i].u = uu at *
          go_wp2
          go_roundw
          case rel => exact ⟨i + 1, by omega, by go_num, HB.out, HX.out⟩
          case measure => simp [intOf]; omega
      · obtain rfl : i = n := by omega
        have hgd : decide ((i : Int) < (i : Int)) = false := decide_eq_false (by omega)
        have hf : findX xs k = (0, false) := find_none (fun j hj => hall j hj (by rw [← HN.out]; exact hj))
        rw [HV.out] at hf
        simp only [Prod.mk.injEq] at hf
        obtain ⟨rfl, rfl⟩ := hf
        clear hb hall hlt
        go_wp2
        go_ret2
        exact ⟨rfl, HB.out⟩
  · have HR : Hid (false = true ↔ Rt xs) := ⟨fun e => (by cases e), fun e => absurd e hr⟩
    rw [untilX_no hr] at hv
    simp only [Prod.mk.injEq] at hv
    obtain ⟨rfl, rfl⟩ := hv
    clear h hr
    go_enter Try.func9, Try.ntmps9
    go_wp2_with (go_at_call 14; refine (refRight_val HC.out false HR.out).mono ?_; rintro e w1 ⟨rfl, c1⟩)
    have C1 : Hid (Below w.heap.size w w1) := c1
    clear c1
    go_loopw [7] (fun v7 wr => v7 = .int .i64 0 ∧ wr = w1) (fun _ _ => 0)
    case atStart => exact ⟨rfl, rfl⟩
    case round =>
      obtain ⟨rfl, rfl⟩ := hrel
      cases hd : decide (0 < n)
      all_goals
        go_wp2
        go_ret2
        exact ⟨rfl, C1.out⟩

set_option maxRecDepth 100000 in
set_option maxHeartbeats 2000000 in
theorem refLate_val {a : Option Addr} {n c : Nat} {xs : LS} {w : World} (h : LL w a n c xs) (now : Int) (zs : List Int) (v : Bool) (m : Nat) (hv : lateX xs now = (zs, v)) (hm : zs.length = m) :
    Calls Try.prog 11 #[.slice a n c, .int .i64 now] w fun e w' => NumR zs m (.bool v) e w' ∧ Below w.heap.size w w' := by
  have HC : Hid (LL w a n c xs) := h
  have HN : Hid (xs.length = n) := h.len
  by_cases hr : Rt xs
  · obtain ⟨ti, hi1, hi2, hi3, hi4⟩ := intRow
    have HR : Hid (true = true ↔ Rt xs) := ⟨fun _ => hr, fun _ => rfl⟩
    have hn4 : n ≤ 4 := by rw [← HN.out]; exact hr.few
    rw [lateX_yes hr] at hv
    simp only [Prod.mk.injEq] at hv
    obtain ⟨hz, rfl⟩ := hv
    have HZ : Hid (lateL now xs = zs) := hz
    have HM : Hid (zs.length = m) := hm
    clear h hr hz hm
    go_enter Try.func11, Try.ntmps11
    go_wp2_with (go_at_call 14; refine (refRight_val HC.out true HR.out).mono ?_; rintro e w1 ⟨rfl, c1⟩)
    have C1 : Hid (Below w.heap.size w w1) := c1
    clear c1
    go_loopw [7, 8] (fun v7 v8 wr => ∃ (i : Nat) (fa : Option Addr) (fn fc : Nat) (g : Option Nat), i ≤ n ∧ v8 = .int .i64 i ∧ v7 = .slice fa fn fc ∧ NO w.heap.size wr fa fn fc (lateL now (xs.take i)) g ∧ Below w.heap.size w wr) (fun _ v8 _ => n - (intOf v8).toNat)
    case atStart => exact ⟨0, none, 0, 0, none, by omega, rfl, rfl, NO.none _ _, C1.out⟩
    case round =>
      obtain ⟨i, fa, fn, fc, g, hi, rfl, rfl, hO, hb⟩ := hrel
      have HB : Hid (Below w.heap.size w wr) := hb
      have HO : Hid (NO w.heap.size wr fa fn fc (lateL now (xs.take i)) g) := hO
      by_cases hlt : i < n
      · have hix : i < xs.length := by rw [HN.out]; exact hlt
        obtain ⟨b, off, rfl, hat⟩ := (HC.out.below hb).at (by omega)
        obtain ⟨e0, e1⟩ := hat i hix
        have hfn : fn ≤ 4 := by
          have h1 := hO.len
          have h2 := late_len now (xs.take i)
          rw [List.length_take] at h2
          omega
        have HT : Hid (lateL now (xs.take (i + 1)) = lateL now (xs.take i) ++ (if xs[i].u < now then [xs[i].c] else [])) := late_take now xs i hix
        clear hO hb hat
        generalize xs[i].c = cc at *
        generalize xs[i].u = uu at *
        by_cases hx : uu < now
        · rw [if_pos hx] at HT
          go_wp2_with (at_builtin; refine wpList_append_cel _ rfl _ _ 26 26 rfl 3 ti _ 1 8 Try.underlying26 hi1 hi2 hi3 hi4 rfl (O := fun k => w.heap.size ≤ k) _ fn _ g rfl (HO.out.below (bel_al _ _)).cel _ 1 (rowC intC [cc]) rfl (src_int wr cc) (by unfold maxLen; omega) (by omega) ?_; intro a2 c2 w2 g2 hC2 hS2 hg2; have A2 : Hid _ := (HO.out.below (bel_al _ _)).app (ys := [cc]) rfl hC2 (by have := HB.out.size; simp; omega); have B2 : Hid _ := (HO.out.below (bel_al _ _)).appBelow hS2 (by have := HB.out.size; simp; omega); clear hC2 hS2 hg2)
          go_roundw
          case rel => exact ⟨i + 1, a2, fn + 1, c2, g2, by omega, by go_num, rfl, by rw [HT.out]; exact A2.out, (HB.out.trans ((bel_al _ _).mono HB.out.size)).trans B2.out⟩
          case measure => simp [intOf]; omega
        · rw [if_neg hx, List.append_nil] at HT
          go_wp2
          go_roundw
          case rel => exact ⟨i + 1, fa, fn, fc, g, by omega, by go_num, rfl, by rw [HT.out]; exact HO.out, HB.out⟩
          case measure => simp [intOf]; omega
      · obtain rfl : i = n := by omega
        have hgd : decide ((i : Int) < (i : Int)) = false := decide_eq_false (by omega)
        rw [List.take_of_length_le (by rw [HN.out]; omega), HZ.out] at hO
        obtain rfl : fn = m := by rw [← hO.len, HM.out]
        have HO2 : Hid _ := hO
        clear hb hlt hO HO
        go_wp2
        go_ret2
        obtain ⟨b, hI⟩ := HO2.out.ints
        exact ⟨⟨_, b, _, rfl, HM.out, hI⟩, HB.out⟩
  · have HR : Hid (false = true ↔ Rt xs) := ⟨fun e => (by cases e), fun e => absurd e hr⟩
    rw [lateX_no hr] at hv
    simp only [Prod.mk.injEq] at hv
    obtain ⟨rfl, rfl⟩ := hv
    subst hm
    clear h hr
    go_enter Try.func11, Try.ntmps11
    go_wp2_with (go_at_call 14; refine (refRight_val HC.out false HR.out).mono ?_; rintro e w1 ⟨rfl, c1⟩)
    go_ret2
    exact ⟨NumR.no rfl, c1⟩

set_option maxRecDepth 100000 in
set_option maxHeartbeats 2000000 in
theorem without_val {a : Option Addr} {n c : Nat} {xs : LS} {w : World} (h : LL w a n c xs) (hn4 : n ≤ 4) (k : Int) (ys : LS) (m : Nat) (hz : dropL k xs = ys) (hm : ys.length = m) :
    Calls Try.prog 23 #[.slice a n c, .int .i64 k] w fun e w' => LsR1 w.heap.size ys m e w' ∧ Below w.heap.size w w' := by
  have HC : Hid (LL w a n c xs) := h
  have HN : Hid (xs.length = n) := h.len
  obtain ⟨ti, hi1, hi2, hi3, hi4⟩ := lsRow
  have HZ : Hid (dropL k xs = ys) := hz
  have HM : Hid (ys.length = m) := hm
  clear h hz hm
  go_enter Try.func23, Try.ntmps23
  go_wp2
  go_loopw [5, 6] (fun v5 v6 wr => ∃ (i : Nat) (fa : Option Addr) (fn fc : Nat) (g : Option Nat), i ≤ n ∧ v6 = .int .i64 i ∧ v5 = .slice fa fn fc ∧ LO w.heap.size wr fa fn fc (dropL k (xs.take i)) g ∧ Below w.heap.size w wr) (fun _ v6 _ => n - (intOf v6).toNat)
  case atStart => exact ⟨0, none, 0, 0, none, by omega, rfl, rfl, LO.none _ _, Below.refl _ _⟩
  case round =>
    obtain ⟨i, fa, fn, fc, g, hi, rfl, rfl, hO, hb⟩ := hrel
    have HB : Hid (Below w.heap.size w wr) := hb
    have HO : Hid (LO w.heap.size wr fa fn fc (dropL k (xs.take i)) g) := hO
    by_cases hlt : i < n
    · have hix : i < xs.length := by rw [HN.out]; exact hlt
      obtain ⟨b, off, rfl, hat⟩ := (HC.out.below hb).at (by omega)
      obtain ⟨e0, e1⟩ := hat i hix
      have hfn : fn ≤ 4 := by
        have h1 := hO.len
        have h2 := drop_len k (xs.take i)
        rw [List.length_take] at h2
        omega
      have HT : Hid (dropL k (xs.take (i + 1)) = dropL k (xs.take i) ++ (if xs[i].c = k then [] else [xs[i]])) := drop_take k xs i hix
      clear hO hb hat
      generalize xs[i] = x at *
      obtain ⟨cc, uu⟩ := x
      simp only at e0 e1 HT
      by_cases hx : cc = k
      · rw [if_pos hx, List.append_nil] at HT
        have hxb : (cc != k) = false := by simpa using hx
        clear hx
        go_wp2
        go_roundw
        case rel => exact ⟨i + 1, fa, fn, fc, g, by omega, by go_num, rfl, by rw [HT.out]; exact HO.out, HB.out⟩
        case measure => simp [intOf]; omega
      · rw [if_neg hx] at HT
        have hxb : (cc != k) = true := by simpa using hx
        clear hx
        go_wp2_with (at_builtin; refine wpList_append_cel _ rfl _ _ 22 22 rfl 41 ti _ 2 16 Try.underlying22 hi1 hi2 hi3 hi4 rfl (O := fun k => w.heap.size ≤ k) _ fn _ g rfl (HO.out.below (bel_al _ _)).cel _ 1 (rowC lsC [(⟨cc, uu⟩ : Ls)]) rfl (src_ls wr ⟨cc, uu⟩) (by unfold maxLen; omega) (by omega) ?_; intro a2 c2 w2 g2 hC2 hS2 hg2; have A2 : Hid _ := (HO.out.below (bel_al _ _)).app (ys := [(⟨cc, uu⟩ : Ls)]) rfl hC2 (by have := HB.out.size; simp; omega); have B2 : Hid _ := (HO.out.below (bel_al _ _)).appBelow hS2 (by have := HB.out.size; simp; omega); clear hC2 hS2 hg2)
        go_roundw
        case rel => exact ⟨i + 1, a2, fn + 1, c2, g2, by omega, by go_num, rfl, by rw [HT.out]; exact A2.out, (HB.out.trans ((bel_al _ _).mono HB.out.size)).trans B2.out⟩
        case measure => simp [intOf]; omega
    · obtain rfl : i = n := by omega
      have hgd : decide ((i : Int) < (i : Int)) = false := decide_eq_false (by omega)
      rw [List.take_of_length_le (by rw [HN.out]; omega), HZ.out] at hO
      obtain rfl : fn = m := by rw [← hO.len, HM.out]
      have HO2 : Hid _ := hO
      clear hb hlt hO HO
      go_wp2
      go_ret
      exact ⟨⟨_, _, _, rfl, HO2.out⟩, HB.out⟩

set_option maxRecDepth 100000 in
set_option maxHeartbeats 2000000 in
theorem refDrop_val {a : Option Addr} {n c : Nat} {xs : LS} {w : World} (h : LL w a n c xs) (k : Int) (ys : LS) (v : Bool) (m : Nat) (hv : dropX xs k = (ys, v)) (hm : ys.length = m) :
    Calls Try.prog 19 #[.slice a n c, .int .i64 k] w fun e w' => LsR w.heap.size ys m (.bool v) e w' ∧ Below w.heap.size w w' := by
  have HC : Hid (LL w a n c xs) := h
  have HN : Hid (xs.length = n) := h.len
  by_cases hr : Rt xs
  · have HR : Hid (true = true ↔ Rt xs) := ⟨fun _ => hr, fun _ => rfl⟩
    have hn4 : n ≤ 4 := by rw [← HN.out]; exact hr.few
    rw [dropX_yes hr] at hv
    simp only [Prod.mk.injEq] at hv
    obtain ⟨hz, rfl⟩ := hv
    have CW : Hid (∀ W, Below w.heap.size w W → Calls Try.prog 23 #[.slice a n c, .int .i64 k] W fun e w' => LsR1 W.heap.size ys m e w' ∧ Below W.heap.size W w') := fun W hb => without_val (h.below hb) hn4 k ys m hz hm
    clear h hr hz hm
    go_enter Try.func19, Try.ntmps19
    go_wp2_with (first
      | (go_at_call 14; refine (refRight_val HC.out true HR.out).mono ?_; rintro e w1 ⟨rfl, c1⟩; have B1 : Hid (Below w.heap.size w w1) := c1; clear c1)
      | (go_at_call 23; refine (CW.out _ B1.out).mono ?_; rintro e w2 ⟨⟨a2, c2, g2, rfl, hO⟩, bb⟩; have HO : Hid _ := hO; have B2 : Hid (Below w.heap.size w w2) := bel_tr B1.out bb; clear hO bb))
    go_ret2
    exact ⟨⟨a2, c2, g2, rfl, HO.out.mono B1.out.size⟩, B2.out⟩
  · have HR : Hid (false = true ↔ Rt xs) := ⟨fun e => (by cases e), fun e => absurd e hr⟩
    rw [dropX_no hr] at hv
    simp only [Prod.mk.injEq] at hv
    obtain ⟨rfl, rfl⟩ := hv
    subst hm
    clear h hr
    go_enter Try.func19, Try.ntmps19
    go_wp2_with (go_at_call 14; refine (refRight_val HC.out false HR.out).mono ?_; rintro e w1 ⟨rfl, c1⟩)
    go_ret2
    exact ⟨LsR.no _ rfl, c1⟩

end Go.Proofs.Ytflccniidaogiaa.Lea
