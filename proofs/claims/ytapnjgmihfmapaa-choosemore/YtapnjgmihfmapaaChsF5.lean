/- The contract of choose.Committed. -/
import Derived.Test.YtapnjgmihfmapaaChsF4
namespace Go.Proofs.Ytapnjgmihfmapaa.Chs
open Go.RowKit Go.Proofs.Ytapnjgmihfmapaa Go.Proofs.Ytapnjgmihfmapaa.Lgg
set_option linter.unusedVariables false

theorem enRow : ∃ i, Try.prog.info? 28 = some i ∧ i.zero = some (.agg #[.int .i64 0, .string ByteArray.empty]) ∧ i.size = 2 ∧ i.bytes = 24 :=
  info_parts3 (show (Try.prog.info? 28).map (fun i => (i.zero, i.size, i.bytes)) = some (some (.agg #[.int .i64 0, .string ByteArray.empty]), 2, 24) by kernel_rfl)

theorem Lie.srcT {P : Program} {t e : TypeId} {α : Type} {f : α → List Value} {O : Nat → Prop} {w : World} {a : Option Addr} {xs : List α} (ht : P.underlying t = some (.slice e)) {k : Nat} (hf : Wide f k) (h : Lie f O w a xs) (m : Nat) (hm : m ≤ xs.length) (q : Nat) : Src P k t (.slice a m q) m (rowC f (xs.take m)) w := by
  by_cases h0 : m = 0
  · subst h0
    cases a with
    | none => exact Src.ofNil w ht q
    | some x => exact Src.ofSlice w ht x 0 q [] (by simp) (fun j u hu => by simp at hu) (fun u hu => by cases hu)
  · obtain ⟨b, off, rfl, _, _, hc⟩ := h.cells (by omega)
    refine Src.ofSlice w ht ⟨b, off, none⟩ m q _ (by rw [rowC_len hf, List.length_take, Nat.min_eq_left hm]) (fun j u hu => ?_) (rowC_oneCell hf _)
    rw [Addr.add_lit]
    refine hc j u ?_
    rw [← rowC_take hf xs m hm, List.getElem?_take] at hu
    split at hu
    · exact hu
    · cases hu

/-- Entries in memory that is new are told. -/
structure EnsR (base : Nat) (es : List En) (m : Nat) (e : Ending) (w' : World) : Prop where
  ex : ∃ a c g, e = .returned (.slice a m c) ∧ Cel (fun k => base ≤ k) w' 2 (.slice a m c) m (rowC enC es) g

theorem com_none {xs : List Ls} {N : Nat} (h : topI xs N xs.length = none) : comT xs N = [] := by
  unfold comT; rw [h]
theorem com_some {xs : List Ls} {N : Nat} (hN : 1 ≤ N) {e : Int} (h : topI xs N xs.length = some e) : ∃ (q : Nat) (hq : q < xs.length), okL e (kth xs e N) xs[q] = true ∧ (∀ j (hj : j < q), okL e (kth xs e N) (xs[j]'(by omega)) = false) ∧ comT xs N = xs[q].es.take (kth xs e N) ∧ N ≤ kN xs e 0 := by
  have ht := topI_top xs N hN xs.length (Nat.le_refl _)
  rw [h, List.take_length] at ht
  obtain ⟨h1, _⟩ := ht
  obtain ⟨_, x, hx, hx1, hx2⟩ := kth_nat hN h1
  have hex : ∃ x ∈ xs, okL e (kth xs e N) x = true := ⟨x, hx, by unfold okL; simp [hx1, hx2]⟩
  have hlt : xs.findIdx (okL e (kth xs e N)) < xs.length := List.findIdx_lt_length.2 hex
  refine ⟨xs.findIdx (okL e (kth xs e N)), hlt, List.findIdx_getElem, fun j hj => ?_, ?_, h1⟩
  · have := List.not_of_lt_findIdx hj
    simpa using this
  · unfold comT
    rw [h]
    have hf : xs.find? (fun x => decide (x.ep = e) && decide (kth xs e N ≤ x.es.length)) = some (xs[xs.findIdx (okL e (kth xs e N))]'hlt) := by
      rw [List.find?_eq_some_iff_getElem]
      refine ⟨List.findIdx_getElem (p := okL e (kth xs e N)), _, hlt, rfl, fun j hj => ?_⟩
      have := List.not_of_lt_findIdx hj
      have h2 : okL e (kth xs e N) xs[j] = false := by simpa using this
      show (!okL e (kth xs e N) xs[j]) = true
      rw [h2]; rfl
    simp only [hf]

set_option maxRecDepth 100000 in
set_option maxHeartbeats 4000000 in
theorem committed_val {O O2 : Nat → Prop} {w : World} {a : Option Addr} {xs : List Ls} (h : LsAt O O2 w a xs) (n c : Nat) (hn : xs.length = n) (hb : n ≤ 1000000) (need : Int) (hneed : In64 need) (N : Nat) (hN : (max need 1).toNat = N) (es : List En) (hes : comT xs N = es) (m : Nat) (hm : es.length = m) :
    Calls Try.prog 9 #[.slice a n c, .int .i64 need] w fun e w' => EnsR w.heap.size es m e w' ∧ Below w.heap.size w w' := by
  have hN1 : 1 ≤ N := by omega
  have hmax : max need 1 = (N : Int) := by omega
  have hmax2 : max (1 : Int) need = (N : Int) := by omega
  unfold In64 at hneed
  obtain ⟨o, ho⟩ : ∃ o, topI xs N xs.length = o := ⟨_, rfl⟩
  have CE : Hid (∀ W, Below w.heap.size w W → Calls Try.prog 19 #[.slice a n c, .int .i64 N] W fun e w' => e = .returned (.tuple #[.int .i64 (optZ o), .bool o.isSome]) ∧ Below W.heap.size W w') := fun W hb' => epoch_val (h.below hb') n c hn hb N o (by rw [← hn]; exact ho)
  cases o with
  | none =>
    rw [com_none ho] at hes
    subst hes
    obtain rfl : 0 = m := hm
    clear h hN ho
    go_enter Try.func9, Try.ntmps9
    go_wp2_with (go_at_call 19; refine (CE.out _ (Below.refl _ _)).mono ?_; simp only [optZ, Option.getD_none, Option.isSome_none]; rintro e w1 ⟨rfl, c1⟩)
    go_ret
    exact ⟨⟨none, 0, none, rfl, .nil rfl rfl rfl⟩, bel_tr c1 (bel_al _ _)⟩
  | some e0 =>
    obtain ⟨q, hq, hq1, hq2, hq3, hq4⟩ := com_some hN1 ho
    obtain ⟨K, hK⟩ : ∃ K, kth xs e0 N = K := ⟨_, rfl⟩
    rw [hK] at hq1 hq2 hq3
    have hKe : K ≤ xs[q].es.length := by
      unfold okL at hq1
      simp only [Bool.and_eq_true, decide_eq_true_eq] at hq1
      exact hq1.2
    have hmK : K = m := by rw [← hm, ← hes, hq3, List.length_take]; omega
    have CK : Hid (∀ W, Below w.heap.size w W → Calls Try.prog 20 #[.slice a n c, .int .i64 e0, .int .i64 N] W fun e w' => e = .returned (.int .i64 K) ∧ Below W.heap.size W w') := fun W hb' => counts_val (h.below hb') n c hn hb e0 N hN1 hq4 K hK
    have CI : Hid (∀ W T5 T7, Below w.heap.size w W → W.cell? ⟨T5, 0, none⟩ = some (.int .i64 e0) → W.cell? ⟨T7, 0, none⟩ = some (.int .i64 K) → Calls Try.prog 21 #[.slice a n c, .func (.func 22) #[] #[.pointer (some ⟨T5, 0, none⟩), .pointer (some ⟨T7, 0, none⟩)]] W fun e w' => e = .returned (.int .i64 q) ∧ Below W.heap.size W w') := fun W T5 T7 hb' h5 h7 => index_val (h.below hb') n c hn hb T5 T7 e0 K h5 h7 q hq hq1 hq2
    have HL : Hid (Lie lsC O w a xs) := h.row
    have HX : Hid (Lie enC O2 w xs[q].a xs[q].es) := h.each _ (List.getElem_mem hq)
    obtain ⟨hr1, hr2⟩ := h.room _ (List.getElem_mem hq)
    have hqn : q < n := by omega
    obtain ⟨ti, hi1, hi2, hi3, hi4⟩ := enRow
    have HES : Hid (xs[q].es.take K = es) := by show _ = _; rw [← hq3]; exact hes
    have HAT : Hid (∀ W, Below w.heap.size w W → ∃ b off, a = some ⟨b, off, none⟩ ∧ W.cell? ⟨b, off + q * 2, none⟩ = some (.int .i64 xs[q].ep) ∧ W.cell? ⟨b, off + q * 2 + 1, none⟩ = some (.slice xs[q].a xs[q].es.length xs[q].c)) := fun W hb' => by
      obtain ⟨b, off, ha, hat⟩ := Lie.all wideL (HL.out.below hb') (by omega)
      exact ⟨b, off, ha, hat q hq 0 _ rfl, hat q hq 1 _ rfl⟩
    clear h hN ho hes hm hq1 hq2 hq3 hq4 hK
    generalize xs[q] = x at *
    obtain ⟨ex, ax, cx, sx⟩ := x
    simp only at hKe hr1 hr2 HX HES HAT
    have HLID : Hid (sx.length ≤ maxLen) := HX.out.lid
    have SW : Hid (∀ W, Below w.heap.size w W → Src Try.prog 2 24 (.slice ax K cx) K (rowC enC es) W) := fun W hb' => by
      have := Lie.srcT Try.underlying24 wideN (HX.out.below hb') K hKe cx
      rw [HES.out] at this
      exact this
    have hcx : K ≤ cx := by omega
    have hlid := HLID.out
    have hKl : 0 + K ≤ maxLen := by omega
    have HKB : Hid ((0 + K) * 24 ≤ 140737488355328) := by show (0 + K) * 24 ≤ 140737488355328; omega
    generalize sx.length = nx at *
    subst hmK
    clear hlid HLID
    go_enter Try.func9, Try.ntmps9
    go_wp2_with (first
      | (go_at_call 19; refine (CE.out _ (Below.refl _ _)).mono ?_; simp only [optZ, Option.getD_some, Option.isSome_some]; rintro e w1 ⟨rfl, c1⟩; have B1 : Hid (Below w.heap.size w w1) := c1; clear c1)
      | (go_at_call 20; refine (CK.out _ (bel_tr B1.out (bel_al _ _))).mono ?_; rintro e w2 ⟨rfl, c2⟩; have hT5 := bel_cell c2 (cell_new w1 #[.int .i64 e0] 3 0); have hT5a := cell_al hT5 (.cells #[.int .i64 K] 3); have hT7a := cell_new w2 #[.int .i64 K] 3 0; have B2 : Hid (Below w.heap.size w w2) := bel_tr (bel_tr B1.out (bel_al _ _)) c2; clear c2 hT5)
      | (go_at_call 21; refine (CI.out _ _ _ (bel_tr B2.out (bel_al _ _)) hT5a hT7a).mono ?_; rintro e w3 ⟨rfl, c3⟩; have hT7 := bel_cell c3 hT7a; have B3 : Hid (Below w.heap.size w w3) := bel_tr (bel_tr B2.out (bel_al _ _)) c3; obtain ⟨b, off, rfl, y0, y1⟩ := HAT.out _ B3.out; clear c3 hT5a hT7a))
    have SW3 : Hid (Src Try.prog 2 24 (.slice ax K cx) K (rowC enC es) w3.drew) := SW.out _ (bel_tr B3.out (Below.refl _ w3).drew)
    go_region_law (refine step_append_cel rfl _ (.tmp 32) 24 24 rfl 28 ti _ 2 24 Try.underlying24 hi1 hi2 hi3 hi4 rfl (O := fun z => w.heap.size ≤ z) _ 0 [] none (by simp [Act.eval]) (.nil rfl rfl rfl) _ K (rowC enC es) (by simp [Act.eval, Act.put]) SW3.out hKl HKB.out ?_; intro a5 c5 w5 g5 hC5 hS5 hg5; rw [Nat.zero_add, List.nil_append] at hC5; rw [Nat.zero_add]; have A5 : Hid (Cel (fun k => w.heap.size ≤ k) w5 2 (.slice a5 K c5) K (rowC enC es) g5) := hC5.stay (Nat.le_refl _) (fun _ _ => rfl) (fun k hk => hk.elim id (fun e => Nat.le_trans B3.out.size e.1)); have B5 : Hid (Below w.heap.size w w5) := bel_tr (bel_tr B3.out (Below.refl _ w3).drew) (hS5.below (Nat.le_refl _) (fun k hk => by cases hk)); clear hC5 hS5 hg5)
    all_goals
      go_wp2
      go_ret
      exact ⟨⟨a5, c5, g5, rfl, A5.out⟩, B5.out⟩

end Go.Proofs.Ytapnjgmihfmapaa.Chs
