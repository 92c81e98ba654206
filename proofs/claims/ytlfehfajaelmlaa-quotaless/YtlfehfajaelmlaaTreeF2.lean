/- The contracts of tree.fitsFile, Fits. -/
import Derived.Test.YtlfehfajaelmlaaTreeF1
namespace Go.Proofs.Ytlfehfajaelmlaa
open Go.RowKit

theorem root_eq (p : ByteArray) : (p.toList == [47]) = decide (p = rootP) := by
  rw [Lib.toList_data]
  by_cases h : p = rootP
  · subst h; rfl
  · rw [decide_eq_false h, beq_eq_false_iff_ne]
    intro e
    exact h (ba_inj e)

theorem all_take {α : Type} (f : α → Bool) (l : List α) (i : Nat) (hi : i < l.length) (h : (l.take i).all f = true) (hf : f l[i] = true) : (l.take (i + 1)).all f = true := by
  rw [List.take_succ_eq_append_getElem hi, List.all_append, h]; simp [hf]

set_option maxRecDepth 100000 in
set_option maxHeartbeats 1000000 in
theorem fitsFile_val (x : NR) (v : Bool) (w : World) (hx : NdOk w x) (hv : fileB x.1 = v) :
    Calls Try.prog 46 #[ndV x] w fun e w' => e = .returned (.bool v) ∧ Below w.heap.size w w' := by
  have HX : Hid (NdOk w x) := hx
  have hlen := hx.bs.len
  obtain ⟨⟨p, d, q, bs, wr⟩, ⟨a, n, c⟩⟩ := x
  have hn : bs.length = n := hlen
  unfold fileB headB at hv
  simp only [hn] at hv
  have HN : Hid (bs.length = n) := hn
  unfold ndV
  clear hx hlen hn
  by_cases h1 : p = rootP
  · have e1 : (p.toList == [47]) = true := by rw [root_eq, decide_eq_true h1]
    have hv2 : v = false := by rw [← hv]; simp [h1]
    subst hv2
    clear hv h1 HX
    go_enter Try.func46, Try.ntmps46
    go_wp2
    go_ret
    exact ⟨rfl, bel_al _ _⟩
  have e1 : (p.toList == [47]) = false := by rw [root_eq, decide_eq_false h1]
  by_cases h2 : q = -1
  · subst h2
    by_cases h3 : (decide (-1 ≤ wr) && decide (wr ≤ 3)) = true
    · have H3 : Hid _ := h3
      by_cases h4 : n ≤ 8
      · have hv2 : bs.all blkB = v := by rw [← hv]; rw [decide_eq_false h1, h3]; simp [h4]
        have HV : Hid _ := hv2
        clear hv h1 h3 hv2
        go_enter Try.func46, Try.ntmps46
        go_wp2_with (refine (within_val wr (-1) 3 true _ H3.out).mono ?_; rintro e w1 ⟨rfl, rfl⟩)
        go_loopw [4, 28] (fun _ v28 wr => ∃ i : Nat, i ≤ n ∧ v28 = .int .i64 i ∧ Below w.heap.size w wr ∧ (bs.take i).all blkB = true) (fun _ v28 _ => n - (intOf v28).toNat)
        case atStart => exact ⟨0, by omega, rfl, bel_al _ _, by simp⟩
        case round =>
          obtain ⟨i, hi, rfl, hb, hall⟩ := hrel
          have HB : Hid _ := hb
          have HA : Hid _ := hall
          by_cases hlt : i < n
          · obtain ⟨b, off, ha, hcell⟩ := (HX.out.below hb).bs.cells (by show 0 < n; omega)
            simp only at ha
            subst ha
            have hib : i < bs.length := by rw [HN.out]; exact hlt
            have hc := hcell i hib
            have HE : Hid (blkB bs[i] = true → (bs.take (i + 1)).all blkB = true) := fun h => all_take blkB bs i hib hall h
            have HF : Hid (blkB bs[i] = false → bs.all blkB = false) := fun h => List.all_eq_false.2 ⟨bs[i], List.getElem_mem hib, by rw [h]; simp⟩
            obtain ⟨bi, hbi⟩ : ∃ bi, bs[i] = bi := ⟨_, rfl⟩
            simp only [hbi] at hc HE HF
            obtain ⟨f1, f2, f3⟩ := bi
            have c0 : wr.cell? ⟨b, off + i * 3, none⟩ = some (.int .i64 f1) := hc 0 _ rfl
            have c1 : wr.cell? ⟨b, off + i * 3 + 1, none⟩ = some (.int .i64 f2) := hc 1 _ rfl
            have c2 : wr.cell? ⟨b, off + i * 3 + 2, none⟩ = some (.int .i64 f3) := hc 2 _ rfl
            have c0a := cell_al c0
            have c1a := cell_al c1
            have c2a := cell_al c2
            clear hb hall hcell hc hbi hib
            have HL : Hid (blkB ⟨f1, f2, f3⟩ = (numB f1 && numB f2 && (decide (0 ≤ f3) && decide (f3 ≤ 64)))) := rfl
            cases h1 : numB f1 with
            | false =>
              have H1 : Hid (numB f1 = false) := h1
              have hv0 : v = false := by rw [← HV.out]; exact HF.out (by rw [HL.out, h1]; rfl)
              subst hv0
              clear h1
              go_wp2_with (go_at_call_of 57 (Value.int .i64 f1); refine (within_val f1 1 9007199254740991 false _ H1.out).mono ?_; rintro e w1 ⟨rfl, rfl⟩)
              go_ret
              exact ⟨rfl, HB.out.trans ((bel_al _ _).mono HB.out.size)⟩
            | true =>
              have H1 : Hid (numB f1 = true) := h1
              clear h1
              cases h2 : numB f2 with
              | false =>
                have H2 : Hid (numB f2 = false) := h2
                have hv0 : v = false := by rw [← HV.out]; exact HF.out (by rw [HL.out, h2]; simp)
                subst hv0
                clear h2
                go_wp2_with (first
                  | (go_at_call_of 57 (Value.int .i64 f1); refine (within_val f1 1 9007199254740991 true _ H1.out).mono ?_; rintro e w1 ⟨rfl, rfl⟩)
                  | (go_at_call_of 57 (Value.int .i64 f2); refine (within_val f2 1 9007199254740991 false _ H2.out).mono ?_; rintro e w1 ⟨rfl, rfl⟩))
                go_ret
                exact ⟨rfl, HB.out.trans ((bel_al _ _).mono HB.out.size)⟩
              | true =>
                have H2 : Hid (numB f2 = true) := h2
                clear h2
                cases h3 : (decide (0 ≤ f3) && decide (f3 ≤ 64)) with
                | false =>
                  have H3 : Hid ((decide (0 ≤ f3) && decide (f3 ≤ 64)) = false) := h3
                  have hv0 : v = false := by rw [← HV.out]; exact HF.out (by rw [HL.out, h3]; simp)
                  subst hv0
                  clear h3
                  go_wp2_with (first
                    | (go_at_call_of 57 (Value.int .i64 f1); refine (within_val f1 1 9007199254740991 true _ H1.out).mono ?_; rintro e w1 ⟨rfl, rfl⟩)
                    | (go_at_call_of 57 (Value.int .i64 f2); refine (within_val f2 1 9007199254740991 true _ H2.out).mono ?_; rintro e w1 ⟨rfl, rfl⟩)
                    | (go_at_call_of 57 (Value.int .i64 f3); refine (within_val f3 0 64 false _ H3.out).mono ?_; rintro e w1 ⟨rfl, rfl⟩))
                  go_ret
                  exact ⟨rfl, HB.out.trans ((bel_al _ _).mono HB.out.size)⟩
                | true =>
                  have H3 : Hid ((decide (0 ≤ f3) && decide (f3 ≤ 64)) = true) := h3
                  have HR : Hid ((bs.take (i + 1)).all blkB = true) := HE.out (by rw [HL.out, H1.out, H2.out, h3]; rfl)
                  clear h3
                  go_wp2_with (first
                    | (go_at_call_of 57 (Value.int .i64 f1); refine (within_val f1 1 9007199254740991 true _ H1.out).mono ?_; rintro e w1 ⟨rfl, rfl⟩)
                    | (go_at_call_of 57 (Value.int .i64 f2); refine (within_val f2 1 9007199254740991 true _ H2.out).mono ?_; rintro e w1 ⟨rfl, rfl⟩)
                    | (go_at_call_of 57 (Value.int .i64 f3); refine (within_val f3 0 64 true _ H3.out).mono ?_; rintro e w1 ⟨rfl, rfl⟩))
                  go_roundw
                  case rel => exact ⟨i + 1, by omega, by go_num, HB.out.trans ((bel_al _ _).mono HB.out.size), HR.out⟩
                  case measure => simp [intOf]; omega
          · obtain rfl : i = n := by omega
            have hgd : decide ((i : Int) < (i : Int)) = false := decide_eq_false (by omega)
            have hA := HA.out
            rw [List.take_of_length_le (by rw [HN.out]; omega), HV.out] at hA
            subst hA
            clear hb hall hlt
            go_wp2
            go_ret
            exact ⟨rfl, HB.out⟩
      · have h5 : decide ((8 : Int) < (n : Int)) = true := decide_eq_true (by omega)
        have hv2 : v = false := by rw [← hv]; simp [h4]
        subst hv2
        clear hv h1 h3 HX
        go_enter Try.func46, Try.ntmps46
        go_wp2_with (refine (within_val wr (-1) 3 true _ H3.out).mono ?_; rintro e w1 ⟨rfl, rfl⟩)
        go_ret
        exact ⟨rfl, bel_al _ _⟩
    · have h3' : (decide (-1 ≤ wr) && decide (wr ≤ 3)) = false := by simpa using h3
      have H3 : Hid _ := h3'
      have hv2 : v = false := by rw [← hv, h3']; simp
      subst hv2
      clear hv h1 h3 h3' HX
      go_enter Try.func46, Try.ntmps46
      go_wp2_with (refine (within_val wr (-1) 3 false _ H3.out).mono ?_; rintro e w1 ⟨rfl, rfl⟩)
      go_ret
      exact ⟨rfl, bel_al _ _⟩
  · have h3 : (q != -1) = true := by simpa using h2
    have hv2 : v = false := by rw [← hv]; simp [h2]
    subst hv2
    clear hv h1 h2 HX
    go_enter Try.func46, Try.ntmps46
    go_wp2
    go_ret
    exact ⟨rfl, bel_al _ _⟩


theorem bel_tr {a b c : World} (h : Below a.heap.size a b) (k : Below b.heap.size b c) : Below a.heap.size a c := h.trans (k.mono h.size)

set_option maxRecDepth 100000 in
set_option maxHeartbeats 1000000 in
theorem fits_val (x : NR) (v : Bool) (w : World) (hx : NdOk w x) (hv : fitsB x.1 = v) :
    Calls Try.prog 27 #[ndV x] w fun e w' => e = .returned (.bool v) ∧ Below w.heap.size w w' := by
  have HX : Hid (NdOk w x) := hx
  have CD : Hid (∀ W v, Below w.heap.size w W → dirB x.1 = v → Calls Try.prog 45 #[ndV x] W fun e w' => e = .returned (.bool v) ∧ Below W.heap.size W w') := fun W v hb hv => fitsDir_val x v W (hx.below hb) hv
  have CF : Hid (∀ W v, Below w.heap.size w W → fileB x.1 = v → Calls Try.prog 46 #[ndV x] W fun e w' => e = .returned (.bool v) ∧ Below W.heap.size W w') := fun W v hb hv => fitsFile_val x v W (hx.below hb) hv
  have hs := hx.small
  unfold fitsB at hv
  obtain ⟨⟨p, d, q, bs, wr⟩, ⟨a, n, c⟩⟩ := x
  have HS : Hid (p.size ≤ maxLen) := hs
  unfold ndV at *
  simp only at hv CD CF
  clear hx hs
  cases h1 : pathB p with
  | false =>
    have hv0 : v = false := by rw [← hv, h1]; rfl
    have H1 : Hid (pathB p = false) := h1
    subst hv0
    clear h1 hv
    go_enter Try.func27, Try.ntmps27
    go_wp2_with (refine (isPath_val p false _ HS.out H1.out).mono ?_; rintro e w1 ⟨rfl, c1⟩)
    go_ret
    exact ⟨rfl, bel_tr (bel_al _ _) c1⟩
  | true =>
    have H1 : Hid (pathB p = true) := h1
    rw [h1] at hv
    clear h1
    have z0 : ∀ (o : Obj) w1, Below (w.alloc o).heap.size (w.alloc o) w1 → w1.heap[w.heap.size]? = (w.alloc o).heap[w.heap.size]? := fun o w1 hb => hb.block _ (by simp)
    cases d with
    | false =>
      have hv2 : fileB ⟨p, false, q, bs, wr⟩ = v := by simpa using hv
      have HV : Hid _ := hv2
      clear hv hv2 CD
      go_enter Try.func27, Try.ntmps27
      go_wp2_with (first
        | (go_at_call 36; refine (isPath_val p true _ HS.out H1.out).mono ?_; rintro e w1 ⟨rfl, c1⟩; have C1 : Hid _ := bel_tr (bel_al _ _) c1; have y0 := bel_cell c1 (World.cell?_alloc_new w _ _ 0); have y1 := bel_cell c1 (World.cell?_alloc_new w _ _ 1); have y2 := bel_cell c1 (World.cell?_alloc_new w _ _ 2); have y3 := bel_cell c1 (World.cell?_alloc_new w _ _ 3); have y4 := bel_cell c1 (World.cell?_alloc_new w _ _ 4); clear c1)
        | (go_at_call 46; refine (CF.out _ v C1.out HV.out).mono ?_; rintro e w2 ⟨rfl, c2⟩))
      go_ret
      exact ⟨rfl, bel_tr C1.out c2⟩
    | true =>
      have hv2 : dirB ⟨p, true, q, bs, wr⟩ = v := by simpa using hv
      have HV : Hid _ := hv2
      clear hv hv2 CF
      go_enter Try.func27, Try.ntmps27
      go_wp2_with (first
        | (go_at_call 36; refine (isPath_val p true _ HS.out H1.out).mono ?_; rintro e w1 ⟨rfl, c1⟩; have C1 : Hid _ := bel_tr (bel_al _ _) c1; have y0 := bel_cell c1 (World.cell?_alloc_new w _ _ 0); have y1 := bel_cell c1 (World.cell?_alloc_new w _ _ 1); have y2 := bel_cell c1 (World.cell?_alloc_new w _ _ 2); have y3 := bel_cell c1 (World.cell?_alloc_new w _ _ 3); have y4 := bel_cell c1 (World.cell?_alloc_new w _ _ 4); clear c1)
        | (go_at_call 45; refine (CD.out _ v C1.out HV.out).mono ?_; rintro e w2 ⟨rfl, c2⟩))
      go_ret
      exact ⟨rfl, bel_tr C1.out c2⟩

end Go.Proofs.Ytlfehfajaelmlaa
