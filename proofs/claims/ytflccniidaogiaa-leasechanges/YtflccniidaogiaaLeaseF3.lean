/- The contracts of lease.Until, lease.Late, lease.Drop. -/
import Derived.Test.YtflccniidaogiaaLeaseF2
namespace Go.Proofs.Ytflccniidaogiaa.Lea
open Go.RowKit Go.Proofs.Ytflccniidaogiaa

set_option maxRecDepth 100000 in
set_option maxHeartbeats 2000000 in
theorem until_val {a : Option Addr} {n c : Nat} {xs : LS} {w : World} (h : LL w a n c xs) (k u : Int) (v : Bool) (hv : untilX xs k = (u, v)) :
    Calls Try.prog 8 #[.slice a n c, .int .i64 k] w fun e w' => e = .returned (.tuple #[.int .i64 u, .bool v]) ∧ Below w.heap.size w w' := by
  have HC : Hid (LL w a n c xs) := h
  have HN : Hid (xs.length = n) := h.len
  by_cases hr : Rt xs
  · have HR : Hid (true = true ↔ Rt xs) := ⟨fun _ => hr, fun _ => rfl⟩
    have hn4 : n ≤ 4 := by rw [← HN.out]; exact hr.few
    rw [untilX_yes hr] at hv
    have HV : Hid (findX xs k = (u, v)) := hv
    clear h hr hv
    go_enter Try.func8, Try.ntmps8
    go_wp2_with (go_at_call 13; refine (right_val HC.out true HR.out).mono ?_; rintro e w1 ⟨rfl, c1⟩)
    have C1 : Hid (Below w.heap.size w w1) := c1
    clear c1
    go_loopw [13] (fun v13 wr => ∃ i : Nat, i ≤ n ∧ v13 = .int .i64 i ∧ Below w.heap.size w wr ∧ ∀ j (hj : j < xs.length), j < i → xs[j].c ≠ k) (fun v13 _ => n - (intOf v13).toNat)
    case atStart => exact ⟨0, by omega, rfl, C1.out, fun j hj h0 => by omega⟩
    case round =>
      obtain ⟨i, hi, rfl, hb, hall⟩ := hrel
      have HB : Hid (Below w.heap.size w wr) := hb
      have HA : Hid (∀ j (hj : j < xs.length), j < i → xs[j].c ≠ k) := hall
      by_cases hlt : i < n
      · have hix : i < xs.length := by rw [HN.out]; exact hlt
        obtain ⟨b, off, rfl, hat⟩ := (HC.out.below hb).at (by omega)
        obtain ⟨e0, e1⟩ := hat i hix
        by_cases hx : xs[i].c = k
        · have hf := find_here hix hx hall
          rw [HV.out] at hf
          simp only [Prod.mk.injEq] at hf
          obtain ⟨hu, rfl⟩ := hf
          have HU : Hid (u = xs[i].u) := hu
          have hxb : (xs[i].c == k) = true := by simpa using hx
          clear hall hat hb hx HV hu
          generalize xs[i].c = cc at *
          generalize xs[i].u = uu at *
          go_wp2
          go_ret2
          exact ⟨by rw [HU.out]; rfl, bel_tr HB.out (bel_al _ _)⟩
        · have HX : Hid (∀ j (hj : j < xs.length), j < i + 1 → xs[j].c ≠ k) := fun j hj hji => by
            rcases Nat.lt_or_ge j i with h | h
            · exact hall j hj h
            · obtain rfl : j = i := by omega
              exact hx
          have hxb : (xs[i].c == k) = false := by simpa using hx
          clear hall hat hb hx
          generalize xs[i].c = cc at *
          generalize xs[i].u = uu at *
          go_wp2
          go_roundw
          case rel => exact ⟨i + 1, by omega, by go_num, bel_tr HB.out (bel_al _ _), HX.out⟩
          case measure => simp [intOf]; omega
      · obtain rfl : i = n := by omega
        have hgd : decide ((i : Int) < (i : Int)) = false := decide_eq_false (by omega)
        have hf : findX xs k = (0, false) := find_none (fun j hj => hall j hj (by rw [← HN.out]; exact hj))
        rw [HV.out] at hf
        simp only [Prod.mk.injEq] at hf
        obtain ⟨rfl, rfl⟩ := hf
        clear hb hall hlt
        go_wp2
        go_ret2
        exact ⟨rfl, HB.out⟩
  · have HR : Hid (false = true ↔ Rt xs) := ⟨fun e => (by cases e), fun e => absurd e hr⟩
    rw [untilX_no hr] at hv
    simp only [Prod.mk.injEq] at hv
    obtain ⟨rfl, rfl⟩ := hv
    clear h hr
    go_enter Try.func8, Try.ntmps8
    go_wp2_with (go_at_call 13; refine (right_val HC.out false HR.out).mono ?_; rintro e w1 ⟨rfl, c1⟩)
    go_ret2
    exact ⟨rfl, c1⟩

theorem intRow : ∃ i, Try.prog.info? 3 = some i ∧ i.zero = some (.int .i64 0) ∧ i.size = 1 ∧ i.bytes = 8 :=
  info_parts3 (show (Try.prog.info? 3).map (fun i => (i.zero, i.size, i.bytes)) = some (some (.int .i64 0), 1, 8) by kernel_rfl)
theorem lsRow : ∃ i, Try.prog.info? 41 = some i ∧ i.zero = some (.agg #[.int .i64 0, .int .i64 0]) ∧ i.size = 2 ∧ i.bytes = 16 :=
  info_parts3 (show (Try.prog.info? 41).map (fun i => (i.zero, i.size, i.bytes)) = some (some (.agg #[.int .i64 0, .int .i64 0]), 2, 16) by kernel_rfl)

theorem src_int (w : World) (z : Int) : Src Try.prog 1 26 (.slice (some ⟨w.heap.size, 0, none⟩) 1 1) 1 (rowC intC [z]) (w.alloc (.cells #[.int .i64 z] 3)) := by
  refine Src.ofSlice _ Try.underlying26 ⟨w.heap.size, 0, none⟩ 1 1 _ (by rw [rowC_len wideI]; simp) (fun j u hu => ?_) (rowC_oneCell wideI _)
  rw [Addr.add_lit, Nat.zero_add]
  have e := World.cell?_alloc_new w #[.int .i64 z] 3 j
  refine e.trans ?_
  rw [rowC_one] at hu
  show (List.toArray (intC z))[j]? = some u
  rw [List.getElem?_toArray]; exact hu
theorem src_int1 (w : World) (o : Obj) (z : Int) : Src Try.prog 1 26 (.slice (some ⟨w.heap.size + 1, 0, none⟩) 1 1) 1 (rowC intC [z]) ((w.alloc o).alloc (.cells #[.int .i64 z] 3)) := by
  have h := src_int (w.alloc o) z
  rw [show (w.alloc o).heap.size = w.heap.size + 1 by simp] at h
  exact h
theorem src_ls (w : World) (x : Ls) : Src Try.prog 2 22 (.slice (some ⟨w.heap.size, 0, none⟩) 1 1) 1 (rowC lsC [x]) (w.alloc (.cells #[.int .i64 x.c, .int .i64 x.u] 41)) := by
  refine Src.ofSlice _ Try.underlying22 ⟨w.heap.size, 0, none⟩ 1 1 _ (by rw [rowC_len wideL]; simp) (fun j u hu => ?_) (rowC_oneCell wideL _)
  rw [Addr.add_lit, Nat.zero_add]
  have e := World.cell?_alloc_new w #[.int .i64 x.c, .int .i64 x.u] 41 j
  refine e.trans ?_
  rw [rowC_one] at hu
  show (List.toArray (lsC x))[j]? = some u
  rw [List.getElem?_toArray]; exact hu
theorem src_ls1 (w : World) (o : Obj) (x : Ls) : Src Try.prog 2 22 (.slice (some ⟨w.heap.size + 1, 0, none⟩) 1 1) 1 (rowC lsC [x]) ((w.alloc o).alloc (.cells #[.int .i64 x.c, .int .i64 x.u] 41)) := by
  have h := src_ls (w.alloc o) x
  rw [show (w.alloc o).heap.size = w.heap.size + 1 by simp] at h
  exact h

theorem bel_al2 (w : World) (o p : Obj) : Below w.heap.size w ((w.alloc o).alloc p) := bel_tr (bel_al _ _) (bel_al _ _)

set_option maxRecDepth 100000 in
set_option maxHeartbeats 2000000 in
theorem late_val {a : Option Addr} {n c : Nat} {xs : LS} {w : World} (h : LL w a n c xs) (now : Int) (zs : List Int) (v : Bool) (m : Nat) (hv : lateX xs now = (zs, v)) (hm : zs.length = m) :
    Calls Try.prog 10 #[.slice a n c, .int .i64 now] w fun e w' => NumR zs m (errV v) e w' ∧ Below w.heap.size w w' := by
  have HC : Hid (LL w a n c xs) := h
  have HN : Hid (xs.length = n) := h.len
  by_cases hr : Rt xs
  · obtain ⟨ti, hi1, hi2, hi3, hi4⟩ := intRow
    have HR : Hid (true = true ↔ Rt xs) := ⟨fun _ => hr, fun _ => rfl⟩
    have hn4 : n ≤ 4 := by rw [← HN.out]; exact hr.few
    rw [lateX_yes hr] at hv
    simp only [Prod.mk.injEq] at hv
    obtain ⟨hz, rfl⟩ := hv
    have HZ : Hid (lateL now xs = zs) := hz
    have HM : Hid (zs.length = m) := hm
    clear h hr hz hm
    go_enter Try.func10, Try.ntmps10
    go_wp2_with (go_at_call 13; refine (right_val HC.out true HR.out).mono ?_; rintro e w1 ⟨rfl, c1⟩)
    have C1 : Hid (Below w.heap.size w w1) := c1
    clear c1
    go_loopw [6, 14] (fun v6 v14 wr => ∃ (i : Nat) (fa : Option Addr) (fn fc : Nat) (g : Option Nat), i ≤ n ∧ v14 = .int .i64 i ∧ v6 = .slice fa fn fc ∧ NO w.heap.size wr fa fn fc (lateL now (xs.take i)) g ∧ Below w.heap.size w wr) (fun _ v14 _ => n - (intOf v14).toNat)
    case atStart => exact ⟨0, none, 0, 0, none, by omega, rfl, rfl, NO.none _ _, C1.out⟩
    case round =>
      obtain ⟨i, fa, fn, fc, g, hi, rfl, rfl, hO, hb⟩ := hrel
      have HB : Hid (Below w.heap.size w wr) := hb
      have HO : Hid (NO w.heap.size wr fa fn fc (lateL now (xs.take i)) g) := hO
      by_cases hlt : i < n
      · have hix : i < xs.length := by rw [HN.out]; exact hlt
        obtain ⟨b, off, rfl, hat⟩ := (HC.out.below hb).at (by omega)
        obtain ⟨e0, e1⟩ := hat i hix
        have hfn : fn ≤ 4 := by
          have h1 := hO.len
          have h2 := late_len now (xs.take i)
          rw [List.length_take] at h2
          omega
        have HT : Hid (lateL now (xs.take (i + 1)) = lateL now (xs.take i) ++ (if xs[i].u < now then [xs[i].c] else [])) := late_take now xs i hix
        clear hO hb hat
        generalize xs[i].c = cc at *
        generalize xs[i].u = uu at *
        by_cases hx : uu < now
        · rw [if_pos hx] at HT
          go_wp2_with (at_builtin; refine wpList_append_cel _ rfl _ _ 26 26 rfl 3 ti _ 1 8 Try.underlying26 hi1 hi2 hi3 hi4 rfl (O := fun k => w.heap.size ≤ k) _ fn _ g rfl (HO.out.below (bel_al2 _ _ _)).cel _ 1 (rowC intC [cc]) rfl (src_int1 wr _ cc) (by unfold maxLen; omega) (by omega) ?_; intro a2 c2 w2 g2 hC2 hS2 hg2; have A2 : Hid _ := (HO.out.below (bel_al2 _ _ _)).app (ys := [cc]) rfl hC2 (by have := HB.out.size; simp; omega); have B2 : Hid _ := (HO.out.below (bel_al2 _ _ _)).appBelow hS2 (by have := HB.out.size; simp; omega); clear hC2 hS2 hg2)
          go_roundw
          case rel => exact ⟨i + 1, a2, fn + 1, c2, g2, by omega, by go_num, rfl, by rw [HT.out]; exact A2.out, (HB.out.trans ((bel_al2 _ _ _).mono HB.out.size)).trans B2.out⟩
          case measure => simp [intOf]; omega
        · rw [if_neg hx, List.append_nil] at HT
          go_wp2
          go_roundw
          case rel => exact ⟨i + 1, fa, fn, fc, g, by omega, by go_num, rfl, by rw [HT.out]; exact HO.out.below (bel_al _ _), bel_tr HB.out (bel_al _ _)⟩
          case measure => simp [intOf]; omega
      · obtain rfl : i = n := by omega
        have hgd : decide ((i : Int) < (i : Int)) = false := decide_eq_false (by omega)
        rw [List.take_of_length_le (by rw [HN.out]; omega), HZ.out] at hO
        obtain rfl : fn = m := by rw [← hO.len, HM.out]
        have HO2 : Hid _ := hO
        clear hb hlt hO HO
        go_wp2
        go_ret2
        obtain ⟨b, hI⟩ := HO2.out.ints
        exact ⟨⟨_, b, _, rfl, HM.out, hI⟩, HB.out⟩
  · have HR : Hid (false = true ↔ Rt xs) := ⟨fun e => (by cases e), fun e => absurd e hr⟩
    rw [lateX_no hr] at hv
    simp only [Prod.mk.injEq] at hv
    obtain ⟨rfl, rfl⟩ := hv
    subst hm
    clear h hr
    go_enter Try.func10, Try.ntmps10
    go_wp2_with (go_at_call 13; refine (right_val HC.out false HR.out).mono ?_; rintro e w1 ⟨rfl, c1⟩)
    go_ret2
    exact ⟨NumR.no rfl, c1⟩

set_option maxRecDepth 100000 in
set_option maxHeartbeats 2000000 in
theorem drop_val {a : Option Addr} {n c : Nat} {xs : LS} {w : World} (h : LL w a n c xs) (k : Int) (ys : LS) (v : Bool) (m : Nat) (hv : dropX xs k = (ys, v)) (hm : ys.length = m) :
    Calls Try.prog 18 #[.slice a n c, .int .i64 k] w fun e w' => LsR w.heap.size ys m (errV v) e w' ∧ Below w.heap.size w w' := by
  have HC : Hid (LL w a n c xs) := h
  have HN : Hid (xs.length = n) := h.len
  by_cases hr : Rt xs
  · obtain ⟨ti, hi1, hi2, hi3, hi4⟩ := lsRow
    have HR : Hid (true = true ↔ Rt xs) := ⟨fun _ => hr, fun _ => rfl⟩
    have hn4 : n ≤ 4 := by rw [← HN.out]; exact hr.few
    rw [dropX_yes hr] at hv
    simp only [Prod.mk.injEq] at hv
    obtain ⟨hz, rfl⟩ := hv
    have HZ : Hid (dropL k xs = ys) := hz
    have HM : Hid (ys.length = m) := hm
    clear h hr hz hm
    go_enter Try.func18, Try.ntmps18
    go_wp2_with (go_at_call 13; refine (right_val HC.out true HR.out).mono ?_; rintro e w1 ⟨rfl, c1⟩)
    have C1 : Hid (Below w.heap.size w w1) := c1
    clear c1
    go_loopw [6, 14] (fun v6 v14 wr => ∃ (i : Nat) (fa : Option Addr) (fn fc : Nat) (g : Option Nat), i ≤ n ∧ v14 = .int .i64 i ∧ v6 = .slice fa fn fc ∧ LO w.heap.size wr fa fn fc (dropL k (xs.take i)) g ∧ Below w.heap.size w wr) (fun _ v14 _ => n - (intOf v14).toNat)
    case atStart => exact ⟨0, none, 0, 0, none, by omega, rfl, rfl, LO.none _ _, C1.out⟩
    case round =>
      obtain ⟨i, fa, fn, fc, g, hi, rfl, rfl, hO, hb⟩ := hrel
      have HB : Hid (Below w.heap.size w wr) := hb
      have HO : Hid (LO w.heap.size wr fa fn fc (dropL k (xs.take i)) g) := hO
      by_cases hlt : i < n
      · have hix : i < xs.length := by rw [HN.out]; exact hlt
        obtain ⟨b, off, rfl, hat⟩ := (HC.out.below hb).at (by omega)
        obtain ⟨e0, e1⟩ := hat i hix
        have hfn : fn ≤ 4 := by
          have h1 := hO.len
          have h2 := drop_len k (xs.take i)
          rw [List.length_take] at h2
          omega
        have HT : Hid (dropL k (xs.take (i + 1)) = dropL k (xs.take i) ++ (if xs[i].c = k then [] else [xs[i]])) := drop_take k xs i hix
        clear hO hb hat
        generalize xs[i] = x at *
        obtain ⟨cc, uu⟩ := x
        simp only at e0 e1 HT
        by_cases hx : cc = k
        · rw [if_pos hx, List.append_nil] at HT
          have hxb : (cc != k) = false := by simpa using hx
          clear hx
          go_wp2
          go_roundw
          case rel => exact ⟨i + 1, fa, fn, fc, g, by omega, by go_num, rfl, by rw [HT.out]; exact HO.out.below (bel_al _ _), bel_tr HB.out (bel_al _ _)⟩
          case measure => simp [intOf]; omega
        · rw [if_neg hx] at HT
          have hxb : (cc != k) = true := by simpa using hx
          clear hx
          go_wp2_with (at_builtin; refine wpList_append_cel _ rfl _ _ 22 22 rfl 41 ti _ 2 16 Try.underlying22 hi1 hi2 hi3 hi4 rfl (O := fun k => w.heap.size ≤ k) _ fn _ g rfl (HO.out.below (bel_al2 _ _ _)).cel _ 1 (rowC lsC [(⟨cc, uu⟩ : Ls)]) rfl (src_ls1 wr _ ⟨cc, uu⟩) (by unfold maxLen; omega) (by omega) ?_; intro a2 c2 w2 g2 hC2 hS2 hg2; have A2 : Hid _ := (HO.out.below (bel_al2 _ _ _)).app (ys := [(⟨cc, uu⟩ : Ls)]) rfl hC2 (by have := HB.out.size; simp; omega); have B2 : Hid _ := (HO.out.below (bel_al2 _ _ _)).appBelow hS2 (by have := HB.out.size; simp; omega); clear hC2 hS2 hg2)
          go_roundw
          case rel => exact ⟨i + 1, a2, fn + 1, c2, g2, by omega, by go_num, rfl, by rw [HT.out]; exact A2.out, (HB.out.trans ((bel_al2 _ _ _).mono HB.out.size)).trans B2.out⟩
          case measure => simp [intOf]; omega
      · obtain rfl : i = n := by omega
        have hgd : decide ((i : Int) < (i : Int)) = false := decide_eq_false (by omega)
        rw [List.take_of_length_le (by rw [HN.out]; omega), HZ.out] at hO
        obtain rfl : fn = m := by rw [← hO.len, HM.out]
        have HO2 : Hid _ := hO
        clear hb hlt hO HO
        go_wp2
        go_ret2
        exact ⟨⟨_, _, _, rfl, HO2.out⟩, HB.out⟩
  · have HR : Hid (false = true ↔ Rt xs) := ⟨fun e => (by cases e), fun e => absurd e hr⟩
    rw [dropX_no hr] at hv
    simp only [Prod.mk.injEq] at hv
    obtain ⟨rfl, rfl⟩ := hv
    subst hm
    clear h hr
    go_enter Try.func18, Try.ntmps18
    go_wp2_with (go_at_call 13; refine (right_val HC.out false HR.out).mono ?_; rintro e w1 ⟨rfl, c1⟩)
    go_ret2
    exact ⟨LsR.no _ rfl, c1⟩

end Go.Proofs.Ytflccniidaogiaa.Lea
