/- The contracts of choose.commonEntries, Committed's own function, slices.IndexFunc. -/
import Derived.Test.YtapnjgmihfmapaaChsF3
import Derived.Deep.AppendSrc
namespace Go.Proofs.Ytapnjgmihfmapaa.Chs
open Go.RowKit Go.Proofs.Ytapnjgmihfmapaa Go.Proofs.Ytapnjgmihfmapaa.Lgg
set_option linter.unusedVariables false

theorem info_parts3 {i : Option TypeInfo} {z : Value} {s b : Nat} (h : i.map (fun i => (i.zero, i.size, i.bytes)) = some (some z, s, b)) : ∃ j, i = some j ∧ j.zero = some z ∧ j.size = s ∧ j.bytes = b := by
  cases i with
  | none => cases h
  | some j => simp at h; exact ⟨j, rfl, h.1, h.2.1, h.2.2⟩
theorem intRow : ∃ i, Try.prog.info? 3 = some i ∧ i.zero = some (.int .i64 0) ∧ i.size = 1 ∧ i.bytes = 8 :=
  info_parts3 (show (Try.prog.info? 3).map (fun i => (i.zero, i.size, i.bytes)) = some (some (.int .i64 0), 1, 8) by kernel_rfl)
theorem src_int (w : World) (z : Int) : Src Try.prog 1 35 (.slice (some ⟨w.heap.size, 0, none⟩) 1 1) 1 (rowC intC [z]) (w.alloc (.cells #[.int .i64 z] 3)) := by
  refine Src.ofSlice _ Try.underlying35 ⟨w.heap.size, 0, none⟩ 1 1 _ (by rw [rowC_len wideI]; simp) (fun j u hu => ?_) (rowC_oneCell wideI _)
  rw [Addr.add_lit, Nat.zero_add]
  have e := World.cell?_alloc_new w #[.int .i64 z] 3 j
  refine e.trans ?_
  rw [rowC_one] at hu
  show (List.toArray (intC z))[j]? = some u
  rw [List.getElem?_toArray]; exact hu
theorem src_int1 (w : World) (o : Obj) (z : Int) : Src Try.prog 1 35 (.slice (some ⟨w.heap.size + 1, 0, none⟩) 1 1) 1 (rowC intC [z]) ((w.alloc o).alloc (.cells #[.int .i64 z] 3)) := by
  have h := src_int (w.alloc o) z
  rw [show (w.alloc o).heap.size = w.heap.size + 1 by simp] at h
  exact h
theorem bel_al2 (w : World) (o p : Obj) : Below w.heap.size w ((w.alloc o).alloc p) := bel_tr (bel_al _ _) (bel_al _ _)

set_option maxRecDepth 100000 in
set_option maxHeartbeats 4000000 in
theorem counts_val {O O2 : Nat → Prop} {w : World} {a : Option Addr} {xs : List Ls} (h : LsAt O O2 w a xs) (n c : Nat) (hn : xs.length = n) (hb : n ≤ 1000000) (e : Int) (N : Nat) (h1 : 1 ≤ N) (h2 : N ≤ kN xs e 0) (K : Nat) (hK : kth xs e N = K) :
    Calls Try.prog 20 #[.slice a n c, .int .i64 e, .int .i64 N] w fun e w' => e = .returned (.int .i64 K) ∧ Below w.heap.size w w' := by
  obtain ⟨ti, hi1, hi2, hi3, hi4⟩ := intRow
  have HL : Hid (Lie lsC O w a xs) := h.row
  have HN : Hid (xs.length = n) := hn
  have HK : Hid ((sortZ (szs xs e)).getD ((szs xs e).length - N) 0 = (K : Int)) := by show _ = _; rw [(kth_nat h1 h2).1, hK]
  have HLE : Hid (N ≤ (szs xs e).length) := by show N ≤ (szs xs e).length; rw [szs_len]; exact h2
  have HSL : Hid (∀ i, (szs (xs.take i) e).length ≤ 1000000) := fun i => by
    rw [szs_len]
    have := kN_le (xs.take i) e 0
    rw [List.length_take] at this
    omega
  clear h hn h2 hK
  go_enter Try.func20, Try.ntmps20
  go_wp2
  go_loopw [7, 9, 12] (fun v7 _ v12 wr => ∃ (i : Nat) (fa : Option Addr) (fn fc : Nat) (g : Option Nat), i ≤ n ∧ v12 = .int .i64 i ∧ v7 = .slice fa fn fc ∧ Hid ((szs (xs.take i) e).length = fn) ∧ Hid (Cel (fun k => w.heap.size ≤ k) wr 1 (.slice fa fn fc) fn (rowC intC (szs (xs.take i) e)) g) ∧ Hid (Below w.heap.size w wr)) (fun _ _ v12 _ => n - (intOf v12).toNat)
  case atStart => exact ⟨0, none, 0, 0, none, by omega, rfl, rfl, rfl, .nil rfl rfl rfl, Below.refl _ _⟩
  case round =>
    obtain ⟨i, fa, fn, fc, g, hi, rfl, rfl, HZ, HC, HB⟩ := hrel
    have hfn := HSL.out i
    rw [HZ.out] at hfn
    by_cases hlt : i < n
    · have hix : i < xs.length := by rw [HN.out]; exact hlt
      obtain ⟨b, off, rfl, hat⟩ := Lie.all wideL (HL.out.below HB.out) (by omega)
      have e0 : wr.cell? ⟨b, off + i * 2, none⟩ = some (.int .i64 xs[i].ep) := hat i hix 0 _ rfl
      have e1 : wr.cell? ⟨b, off + i * 2 + 1, none⟩ = some (.slice xs[i].a xs[i].es.length xs[i].c) := hat i hix 1 _ rfl
      have HX : Hid _ := szs_snoc hix e
      clear hat
      generalize xs[i] = x at *
      obtain ⟨ex, ax, cx, sx⟩ := x
      simp only at e0 e1 HX
      generalize sx.length = nx at *
      by_cases hx : ex = e
      · subst hx
        rw [if_pos rfl] at HX
        go_wp2_with (at_builtin; refine wpList_append_cel _ rfl _ _ 35 35 rfl 3 ti _ 1 8 Try.underlying35 hi1 hi2 hi3 hi4 rfl (O := fun k => w.heap.size ≤ k) _ fn _ g rfl (HC.out.below (bel_al2 _ _ _)) _ 1 (rowC intC [(nx : Int)]) rfl (src_int1 wr _ nx) (by unfold maxLen; omega) (by omega) ?_; intro a2 c2 w2 g2 hC2 hS2 hg2; rw [← rowC_app] at hC2; have A2 : Hid _ := hC2.stay (O2 := fun k => w.heap.size ≤ k) (Nat.le_refl _) (fun _ _ => rfl) (fun k hk => hk.elim id (fun e => Nat.le_trans (Nat.le_trans HB.out.size (bel_al2 wr _ _).size) e.1)); have B2 : Hid (Below w.heap.size w w2) := (HB.out.trans ((bel_al2 wr _ _).mono HB.out.size)).trans (hS2.below (Nat.le_trans HB.out.size (bel_al2 wr _ _).size) (fun k hk => by subst hk; exact HC.out.lt.2)); clear hC2 hS2 hg2)
        go_roundw
        case rel => exact ⟨i + 1, a2, fn + 1, c2, g2, by omega, by go_num, rfl, by show _ = _; rw [HX.out, List.length_append, HZ.out]; rfl, by rw [HX.out]; exact A2.out, B2⟩
        case measure => simp [intOf]; omega
      · rw [if_neg hx] at HX
        have hxb : (ex == e) = false := by simpa using hx
        have hxd : decide (ex = e) = false := decide_eq_false hx
        go_wp2
        go_roundw
        case rel => exact ⟨i + 1, fa, fn, fc, g, by omega, by go_num, rfl, by rw [HX.out]; exact HZ.out, by rw [HX.out]; exact HC.out.below (bel_al _ _), bel_tr HB.out (bel_al _ _)⟩
        case measure => simp [intOf]; omega
    · obtain rfl : i = n := by omega
      have htk : xs.take i = xs := List.take_of_length_le (by rw [HN.out]; omega)
      rw [htk] at HZ HC
      have hle : N ≤ fn := by rw [← HZ.out]; exact HLE.out
      obtain ⟨g0, rfl, rfl⟩ := HC.out.at2 (show 0 < fn by omega)
      obtain ⟨q, hq⟩ : ∃ q, fn = q + N := ⟨fn - N, by omega⟩
      have hsub : (fn : Int) - (N : Int) = (q : Int) := by omega
      have hqf : q < fn := by omega
      have CS := sort_val HC.out HZ.out (by omega)
      have HV : Hid (∀ W O', Cel O' W 1 (.slice (some ⟨g0, 0, none⟩) fn fc) fn (rowC intC (sortZ (szs xs e))) (some g0) → W.cell? ⟨g0, q, none⟩ = some (.int .i64 (K : Int))) := fun W O' hC => by
        have hl : (sortZ (szs xs e)).length = fn := by rw [sortZ_len, HZ.out]
        have hl2 : (rowC intC (sortZ (szs xs e))).length = fn := by rw [rowC_len wideI, hl]; omega
        have h3 := HK.out
        rw [HZ.out, show fn - N = q by omega, List.getD_eq_getElem?_getD, List.getElem?_eq_getElem (by omega)] at h3
        change (sortZ (szs xs e))[q] = (K : Int) at h3
        rw [hC.cell q (by omega)]
        congr 1
        simp only [intC_row, List.getElem_map]
        rw [h3]
      have HWG : Hid (w.heap.size ≤ g0) := HC.out.lt.2
      clear hlt htk hq
      go_wp2_with (go_at_call 25; refine CS.mono ?_; rintro e w2 ⟨rfl, hC2, hS2⟩; have y0 := HV.out w2 _ hC2; have B2 : Hid (Below w.heap.size w w2) := HB.out.trans (hS2.below HB.out.size (fun k hk => by rw [hk]; exact HWG.out)); clear hC2 hS2)
      go_ret
      exact ⟨rfl, B2.out⟩

/-- Is it of that epoch, and has it as many? -/
def okL (e : Int) (K : Nat) (x : Ls) : Bool := decide (x.ep = e) && decide (K ≤ x.es.length)

set_option maxRecDepth 100000 in
set_option maxHeartbeats 1000000 in
theorem pick_val (x : Ls) (T5 T7 : Nat) (e : Int) (K : Nat) (v : Bool) (hv : okL e K x = v) (w : World) (h5 : w.cell? ⟨T5, 0, none⟩ = some (.int .i64 e)) (h7 : w.cell? ⟨T7, 0, none⟩ = some (.int .i64 K)) :
    Calls Try.prog 22 #[.agg #[.int .i64 x.ep, .slice x.a x.es.length x.c], .pointer (some ⟨T5, 0, none⟩), .pointer (some ⟨T7, 0, none⟩)] w fun e w' => e = .returned (.bool v) ∧ Below w.heap.size w w' := by
  have k5 := cell_al h5
  have k7 := cell_al h7
  unfold okL at hv
  obtain ⟨ex, ax, cx, sx⟩ := x
  simp only at hv ⊢
  generalize sx.length = nx at *
  clear h5 h7
  by_cases h1 : ex = e
  · subst h1
    by_cases h2 : K ≤ nx
    · have h2b : decide ((nx : Int) ≥ (K : Int)) = true := decide_eq_true (by omega)
      obtain rfl : v = true := by rw [← hv]; simp [h2]
      clear hv
      go_enter Try.func22, Try.ntmps22
      go_wp2
      go_ret
      exact ⟨rfl, bel_al _ _⟩
    · have h2b : decide ((nx : Int) ≥ (K : Int)) = false := decide_eq_false (by omega)
      obtain rfl : v = false := by rw [← hv]; simp; omega
      clear hv
      go_enter Try.func22, Try.ntmps22
      go_wp2
      go_ret
      exact ⟨rfl, bel_al _ _⟩
  · have h1b : decide (ex = e) = false := decide_eq_false h1
    obtain rfl : v = false := by rw [← hv]; simp [h1]
    clear hv
    go_enter Try.func22, Try.ntmps22
    go_wp2
    go_ret
    exact ⟨rfl, bel_al _ _⟩

set_option maxRecDepth 100000 in
set_option maxHeartbeats 2000000 in
theorem index_val {O O2 : Nat → Prop} {w : World} {a : Option Addr} {xs : List Ls} (h : LsAt O O2 w a xs) (n c : Nat) (hn : xs.length = n) (hb : n ≤ 1000000) (T5 T7 : Nat) (e : Int) (K : Nat) (h5 : w.cell? ⟨T5, 0, none⟩ = some (.int .i64 e)) (h7 : w.cell? ⟨T7, 0, none⟩ = some (.int .i64 K))
    (q : Nat) (hq : q < xs.length) (hq1 : okL e K xs[q] = true) (hq2 : ∀ j (hj : j < q), okL e K (xs[j]'(by omega)) = false) :
    Calls Try.prog 21 #[.slice a n c, .func (.func 22) #[] #[.pointer (some ⟨T5, 0, none⟩), .pointer (some ⟨T7, 0, none⟩)]] w fun e w' => e = .returned (.int .i64 q) ∧ Below w.heap.size w w' := by
  have HL : Hid (Lie lsC O w a xs) := h.row
  have HN : Hid (xs.length = n) := hn
  have HQ1 : Hid (okL e K xs[q] = true) := hq1
  have HQ2 : Hid (∀ j (hj : j < q), okL e K (xs[j]'(by omega)) = false) := hq2
  have H5 : Hid _ := h5
  have H7 : Hid _ := h7
  have hqn : q < n := by rw [← hn]; exact hq
  clear h hq1 h5 h7
  go_enter Try.func21, Try.ntmps21
  go_wp2
  go_loopw [5, 8] (fun _ v8 wr => ∃ i : Nat, i ≤ q ∧ v8 = .int .i64 i ∧ Below w.heap.size w wr) (fun _ v8 _ => q + 1 - (intOf v8).toNat)
  case atStart => exact ⟨0, by omega, rfl, Below.refl _ _⟩
  case round =>
    obtain ⟨i, hi, rfl, hbl⟩ := hrel
    have HB : Hid _ := hbl
    have hix : i < xs.length := by omega
    have hin : i < n := by omega
    obtain ⟨b, off, rfl, hat⟩ := Lie.all wideL (HL.out.below hbl) (by omega)
    have e0 : wr.cell? ⟨b, off + i * 2, none⟩ = some (.int .i64 xs[i].ep) := hat i hix 0 _ rfl
    have e1 : wr.cell? ⟨b, off + i * 2 + 1, none⟩ = some (.slice xs[i].a xs[i].es.length xs[i].c) := hat i hix 1 _ rfl
    have h5r := bel_cell hbl H5.out
    have h7r := bel_cell hbl H7.out
    have CP : Hid (∀ v, okL e K xs[i] = v → Calls Try.prog 22 #[.agg #[.int .i64 xs[i].ep, .slice xs[i].a xs[i].es.length xs[i].c], .pointer (some ⟨T5, 0, none⟩), .pointer (some ⟨T7, 0, none⟩)] wr fun e w' => e = .returned (.bool v) ∧ Below wr.heap.size wr w') := fun v hv => pick_val xs[i] T5 T7 e K v hv wr h5r h7r
    by_cases hlt : i < q
    · have CP2 := CP.out false (HQ2.out i hlt)
      clear hat hbl h5r h7r CP
      generalize xs[i] = x at *
      obtain ⟨ex, ax, cx, sx⟩ := x
      simp only at e0 e1 CP2
      go_wp2_with (go_at_call 22; refine CP2.mono ?_; rintro e w1 ⟨rfl, hb1⟩)
      go_roundw
      case rel => exact ⟨i + 1, by omega, by go_num, bel_tr HB.out hb1⟩
      case measure => simp [intOf]; omega
    · obtain rfl : i = q := by omega
      have CP2 := CP.out true HQ1.out
      clear hat hbl h5r h7r CP hlt
      generalize xs[i] = x at *
      obtain ⟨ex, ax, cx, sx⟩ := x
      simp only at e0 e1 CP2
      go_wp2_with (go_at_call 22; refine CP2.mono ?_; rintro e w1 ⟨rfl, hb1⟩)
      go_ret
      exact ⟨rfl, bel_tr HB.out hb1⟩

end Go.Proofs.Ytapnjgmihfmapaa.Chs
