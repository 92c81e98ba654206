/- Part 18 of the proof: TreeF1, TreeF2, TreeF3, TreeF4, TreeF5, TreeF6, TreeF7, TreeF8, TreeF9, TreeN, TreeR1. -/
import Derived.Test.YtigomhilcnnjdaaGreatB13
import Derived.Test.YtigomhilcnnjdaaGreatB14
import Derived.BigQuiet
import Derived.BigRegion
import Derived.Deep.QuietTactic
import Derived.Deep.RegionLaw
import Derived.Deep.RegionWith
import Derived.Lib.MinMax
import Derived.Lib.QuietBelow
import Derived.OwnWalk
import Derived.Test.YtigomhilcnnjdaaGreatRows
import Derived.WalkKit
import Derived.WalkLawsBesides
import Derived.WalkSpells

/- The contracts of tree.isPath, within, fitsDir, fitsFile, Fits. -/
namespace Go.Proofs.YtigomhilcnnjdaaGreat
open Go.RowKit

theorem bel_cell {w w' : World} (h : Below w.heap.size w w') {a : Addr} {v : Value} (hc : w.cell? a = some v) : w'.cell? a = some v := (h.cell (World.block_lt_of_cell? _ _ hc)).trans hc
theorem cell_al {w : World} {a : Addr} {v : Value} (h : w.cell? a = some v) (o : Obj) : (w.alloc o).cell? a = some v := ((Below.refl _ w).alloc (Nat.le_refl _) o |>.cell (World.block_lt_of_cell? _ _ h)).trans h
theorem bel_al (w : World) (o : Obj) : Below w.heap.size w (w.alloc o) := (Below.refl _ w).alloc (Nat.le_refl _) o

set_option maxRecDepth 100000 in
theorem isPath_val (p : ByteArray) (v : Bool) (w : World) (hs : p.size ≤ maxLen) (hv : pathB p = v) :
    Calls Tryz.prog 74 #[.string p] w fun e w' => e = .returned (.bool v) ∧ Below w.heap.size w w' := by
  have HX : Hid (splitX p = (splitN p, splitE p)) := splitX_pair p
  have hE : (splitE p == 0) = v := by rw [← hv]; unfold pathB; by_cases h : splitE p = 0 <;> simp [h]
  generalize splitE p = E at *
  generalize splitN p = N at *
  obtain ⟨n, hn⟩ : ∃ n, N.length = n := ⟨_, rfl⟩
  have HN : Hid (N.length = n) := hn
  clear hn hv
  go_enter Tryz.func74, Tryz.ntmps74
  go_wp2_with fail
  refine (split_val p N E n _ hs HX.out HN.out).mono ?_
  rintro e w1 ⟨a, b, cap, rfl, hS, c⟩
  clear hS
  go_wp2
  go_ret
  exact ⟨rfl, c⟩

set_option maxRecDepth 100000 in
theorem within_val (n l m : Int) (v : Bool) (w : World) (hv : (decide (l ≤ n) && decide (n ≤ m)) = v) :
    Calls Tryz.prog 92 #[.int .i64 n, .int .i64 l, .int .i64 m] w fun e w' => e = .returned (.bool v) ∧ w' = w := by
  cases h1 : decide (l ≤ n) with
  | false =>
    rw [h1] at hv
    have hv2 : false = v := by simpa using hv
    clear hv
    subst hv2
    go_enter Tryz.func92, Tryz.ntmps92
    go_wp2
    go_ret
    exact ⟨rfl, rfl⟩
  | true =>
    rw [h1] at hv
    have hv2 : decide (n ≤ m) = v := by simpa using hv
    clear hv
    subst hv2
    go_enter Tryz.func92, Tryz.ntmps92
    go_wp2
    go_ret
    exact ⟨rfl, rfl⟩


set_option maxRecDepth 100000 in
theorem fitsDir_val (x : NR) (v : Bool) (w : World) (hx : NdOk w x) (hv : dirB x.1 = v) :
    Calls Tryz.prog 75 #[ndV x] w fun e w' => e = .returned (.bool v) ∧ Below w.heap.size w w' := by
  have hlen := hx.bs.len
  obtain ⟨⟨p, d, q, bs, wr⟩, ⟨a, n, c⟩⟩ := x
  have hn : bs.length = n := hlen
  unfold dirB at hv
  simp only [hn] at hv
  unfold ndV
  clear hx hlen hn
  by_cases h1 : n = 0
  · subst h1
    by_cases h2 : wr = -1
    · subst h2
      have hv2 : (decide (-1 ≤ q) && decide (q ≤ 9007199254740991)) = v := by simpa using hv
      have HV : Hid _ := hv2
      clear hv hv2
      go_enter Tryz.func75, Tryz.ntmps75
      go_wp2_with (refine (within_val q (-1) 9007199254740991 v _ HV.out).mono ?_; rintro e w1 ⟨rfl, rfl⟩)
      go_ret
      exact ⟨rfl, bel_al _ _⟩
    · have h3 : (wr == -1) = false := by simpa using h2
      have hv2 : v = false := by rw [← hv]; simp [h2]
      subst hv2
      clear hv h2
      go_enter Tryz.func75, Tryz.ntmps75
      go_wp2
      go_ret
      exact ⟨rfl, bel_al _ _⟩
  · have h3 : ((n : Int) == 0) = false := by simpa using h1
    have hv2 : v = false := by rw [← hv]; simp [h1]
    subst hv2
    clear hv h1
    go_enter Tryz.func75, Tryz.ntmps75
    go_wp2
    go_ret
    exact ⟨rfl, bel_al _ _⟩

end Go.Proofs.YtigomhilcnnjdaaGreat

/- The contracts of tree.fitsFile, Fits. -/
namespace Go.Proofs.YtigomhilcnnjdaaGreat
open Go.RowKit

theorem root_eq (p : ByteArray) : (p.toList == [47]) = decide (p = rootP) := by
  rw [Lib.toList_data]
  by_cases h : p = rootP
  · subst h; rfl
  · rw [decide_eq_false h, beq_eq_false_iff_ne]
    intro e
    exact h (ba_inj e)

theorem all_take {α : Type} (f : α → Bool) (l : List α) (i : Nat) (hi : i < l.length) (h : (l.take i).all f = true) (hf : f l[i] = true) : (l.take (i + 1)).all f = true := by
  rw [List.take_succ_eq_append_getElem hi, List.all_append, h]; simp [hf]

set_option maxRecDepth 100000 in
set_option maxHeartbeats 1000000 in
theorem fitsFile_val (x : NR) (v : Bool) (w : World) (hx : NdOk w x) (hv : fileB x.1 = v) :
    Calls Tryz.prog 76 #[ndV x] w fun e w' => e = .returned (.bool v) ∧ Below w.heap.size w w' := by
  have HX : Hid (NdOk w x) := hx
  have hlen := hx.bs.len
  obtain ⟨⟨p, d, q, bs, wr⟩, ⟨a, n, c⟩⟩ := x
  have hn : bs.length = n := hlen
  unfold fileB headB at hv
  simp only [hn] at hv
  have HN : Hid (bs.length = n) := hn
  unfold ndV
  clear hx hlen hn
  by_cases h1 : p = rootP
  · have e1 : (p.toList == [47]) = true := by rw [root_eq, decide_eq_true h1]
    have hv2 : v = false := by rw [← hv]; simp [h1]
    subst hv2
    clear hv h1 HX
    go_enter Tryz.func76, Tryz.ntmps76
    go_wp2
    go_ret
    exact ⟨rfl, bel_al _ _⟩
  have e1 : (p.toList == [47]) = false := by rw [root_eq, decide_eq_false h1]
  by_cases h2 : q = -1
  · subst h2
    by_cases h3 : (decide (-1 ≤ wr) && decide (wr ≤ 3)) = true
    · have H3 : Hid _ := h3
      by_cases h4 : n ≤ 8
      · have hv2 : bs.all blkB = v := by rw [← hv]; rw [decide_eq_false h1, h3]; simp [h4]
        have HV : Hid _ := hv2
        clear hv h1 h3 hv2
        go_enter Tryz.func76, Tryz.ntmps76
        go_wp2_with (refine (within_val wr (-1) 3 true _ H3.out).mono ?_; rintro e w1 ⟨rfl, rfl⟩)
        go_loopw [4, 28] (fun _ v28 wr => ∃ i : Nat, i ≤ n ∧ v28 = .int .i64 i ∧ Below w.heap.size w wr ∧ (bs.take i).all blkB = true) (fun _ v28 _ => n - (intOf v28).toNat)
        case atStart => exact ⟨0, by omega, rfl, bel_al _ _, by simp⟩
        case round =>
          obtain ⟨i, hi, rfl, hb, hall⟩ := hrel
          have HB : Hid _ := hb
          have HA : Hid _ := hall
          by_cases hlt : i < n
          · obtain ⟨b, off, ha, hcell⟩ := (HX.out.below hb).bs.cells (by show 0 < n; omega)
            simp only at ha
            subst ha
            have hib : i < bs.length := by rw [HN.out]; exact hlt
            have hc := hcell i hib
            have HE : Hid (blkB bs[i] = true → (bs.take (i + 1)).all blkB = true) := fun h => all_take blkB bs i hib hall h
            have HF : Hid (blkB bs[i] = false → bs.all blkB = false) := fun h => List.all_eq_false.2 ⟨bs[i], List.getElem_mem hib, by rw [h]; simp⟩
            obtain ⟨bi, hbi⟩ : ∃ bi, bs[i] = bi := ⟨_, rfl⟩
            simp only [hbi] at hc HE HF
            obtain ⟨f1, f2, f3⟩ := bi
            have c0 : wr.cell? ⟨b, off + i * 3, none⟩ = some (.int .i64 f1) := hc 0 _ rfl
            have c1 : wr.cell? ⟨b, off + i * 3 + 1, none⟩ = some (.int .i64 f2) := hc 1 _ rfl
            have c2 : wr.cell? ⟨b, off + i * 3 + 2, none⟩ = some (.int .i64 f3) := hc 2 _ rfl
            have c0a := cell_al c0
            have c1a := cell_al c1
            have c2a := cell_al c2
            clear hb hall hcell hc hbi hib
            have HL : Hid (blkB ⟨f1, f2, f3⟩ = (numB f1 && numB f2 && (decide (0 ≤ f3) && decide (f3 ≤ 64)))) := rfl
            cases h1 : numB f1 with
            | false =>
              have H1 : Hid (numB f1 = false) := h1
              have hv0 : v = false := by rw [← HV.out]; exact HF.out (by rw [HL.out, h1]; rfl)
              subst hv0
              clear h1
              go_wp2_with (go_at_call_of 92 (Value.int .i64 f1); refine (within_val f1 1 9007199254740991 false _ H1.out).mono ?_; rintro e w1 ⟨rfl, rfl⟩)
              go_ret
              exact ⟨rfl, HB.out.trans ((bel_al _ _).mono HB.out.size)⟩
            | true =>
              have H1 : Hid (numB f1 = true) := h1
              clear h1
              cases h2 : numB f2 with
              | false =>
                have H2 : Hid (numB f2 = false) := h2
                have hv0 : v = false := by rw [← HV.out]; exact HF.out (by rw [HL.out, h2]; simp)
                subst hv0
                clear h2
                go_wp2_with (first
                  | (go_at_call_of 92 (Value.int .i64 f1); refine (within_val f1 1 9007199254740991 true _ H1.out).mono ?_; rintro e w1 ⟨rfl, rfl⟩)
                  | (go_at_call_of 92 (Value.int .i64 f2); refine (within_val f2 1 9007199254740991 false _ H2.out).mono ?_; rintro e w1 ⟨rfl, rfl⟩))
                go_ret
                exact ⟨rfl, HB.out.trans ((bel_al _ _).mono HB.out.size)⟩
              | true =>
                have H2 : Hid (numB f2 = true) := h2
                clear h2
                cases h3 : (decide (0 ≤ f3) && decide (f3 ≤ 64)) with
                | false =>
                  have H3 : Hid ((decide (0 ≤ f3) && decide (f3 ≤ 64)) = false) := h3
                  have hv0 : v = false := by rw [← HV.out]; exact HF.out (by rw [HL.out, h3]; simp)
                  subst hv0
                  clear h3
                  go_wp2_with (first
                    | (go_at_call_of 92 (Value.int .i64 f1); refine (within_val f1 1 9007199254740991 true _ H1.out).mono ?_; rintro e w1 ⟨rfl, rfl⟩)
                    | (go_at_call_of 92 (Value.int .i64 f2); refine (within_val f2 1 9007199254740991 true _ H2.out).mono ?_; rintro e w1 ⟨rfl, rfl⟩)
                    | (go_at_call_of 92 (Value.int .i64 f3); refine (within_val f3 0 64 false _ H3.out).mono ?_; rintro e w1 ⟨rfl, rfl⟩))
                  go_ret
                  exact ⟨rfl, HB.out.trans ((bel_al _ _).mono HB.out.size)⟩
                | true =>
                  have H3 : Hid ((decide (0 ≤ f3) && decide (f3 ≤ 64)) = true) := h3
                  have HR : Hid ((bs.take (i + 1)).all blkB = true) := HE.out (by rw [HL.out, H1.out, H2.out, h3]; rfl)
                  clear h3
                  go_wp2_with (first
                    | (go_at_call_of 92 (Value.int .i64 f1); refine (within_val f1 1 9007199254740991 true _ H1.out).mono ?_; rintro e w1 ⟨rfl, rfl⟩)
                    | (go_at_call_of 92 (Value.int .i64 f2); refine (within_val f2 1 9007199254740991 true _ H2.out).mono ?_; rintro e w1 ⟨rfl, rfl⟩)
                    | (go_at_call_of 92 (Value.int .i64 f3); refine (within_val f3 0 64 true _ H3.out).mono ?_; rintro e w1 ⟨rfl, rfl⟩))
                  go_roundw
                  case rel => exact ⟨i + 1, by omega, by go_num, HB.out.trans ((bel_al _ _).mono HB.out.size), HR.out⟩
                  case measure => simp [intOf]; omega
          · obtain rfl : i = n := by omega
            have hgd : decide ((i : Int) < (i : Int)) = false := decide_eq_false (by omega)
            have hA := HA.out
            rw [List.take_of_length_le (by rw [HN.out]; omega), HV.out] at hA
            subst hA
            clear hb hall hlt
            go_wp2
            go_ret
            exact ⟨rfl, HB.out⟩
      · have h5 : decide ((8 : Int) < (n : Int)) = true := decide_eq_true (by omega)
        have hv2 : v = false := by rw [← hv]; simp [h4]
        subst hv2
        clear hv h1 h3 HX
        go_enter Tryz.func76, Tryz.ntmps76
        go_wp2_with (refine (within_val wr (-1) 3 true _ H3.out).mono ?_; rintro e w1 ⟨rfl, rfl⟩)
        go_ret
        exact ⟨rfl, bel_al _ _⟩
    · have h3' : (decide (-1 ≤ wr) && decide (wr ≤ 3)) = false := by simpa using h3
      have H3 : Hid _ := h3'
      have hv2 : v = false := by rw [← hv, h3']; simp
      subst hv2
      clear hv h1 h3 h3' HX
      go_enter Tryz.func76, Tryz.ntmps76
      go_wp2_with (refine (within_val wr (-1) 3 false _ H3.out).mono ?_; rintro e w1 ⟨rfl, rfl⟩)
      go_ret
      exact ⟨rfl, bel_al _ _⟩
  · have h3 : (q != -1) = true := by simpa using h2
    have hv2 : v = false := by rw [← hv]; simp [h2]
    subst hv2
    clear hv h1 h2 HX
    go_enter Tryz.func76, Tryz.ntmps76
    go_wp2
    go_ret
    exact ⟨rfl, bel_al _ _⟩


theorem bel_tr {a b c : World} (h : Below a.heap.size a b) (k : Below b.heap.size b c) : Below a.heap.size a c := h.trans (k.mono h.size)

set_option maxRecDepth 100000 in
set_option maxHeartbeats 1000000 in
theorem fits_val (x : NR) (v : Bool) (w : World) (hx : NdOk w x) (hv : fitsB x.1 = v) :
    Calls Tryz.prog 49 #[ndV x] w fun e w' => e = .returned (.bool v) ∧ Below w.heap.size w w' := by
  have HX : Hid (NdOk w x) := hx
  have CD : Hid (∀ W v, Below w.heap.size w W → dirB x.1 = v → Calls Tryz.prog 75 #[ndV x] W fun e w' => e = .returned (.bool v) ∧ Below W.heap.size W w') := fun W v hb hv => fitsDir_val x v W (hx.below hb) hv
  have CF : Hid (∀ W v, Below w.heap.size w W → fileB x.1 = v → Calls Tryz.prog 76 #[ndV x] W fun e w' => e = .returned (.bool v) ∧ Below W.heap.size W w') := fun W v hb hv => fitsFile_val x v W (hx.below hb) hv
  have hs := hx.small
  unfold fitsB at hv
  obtain ⟨⟨p, d, q, bs, wr⟩, ⟨a, n, c⟩⟩ := x
  have HS : Hid (p.size ≤ maxLen) := hs
  unfold ndV at *
  simp only at hv CD CF
  clear hx hs
  cases h1 : pathB p with
  | false =>
    have hv0 : v = false := by rw [← hv, h1]; rfl
    have H1 : Hid (pathB p = false) := h1
    subst hv0
    clear h1 hv
    go_enter Tryz.func49, Tryz.ntmps49
    go_wp2_with (refine (isPath_val p false _ HS.out H1.out).mono ?_; rintro e w1 ⟨rfl, c1⟩)
    go_ret
    exact ⟨rfl, bel_tr (bel_al _ _) c1⟩
  | true =>
    have H1 : Hid (pathB p = true) := h1
    rw [h1] at hv
    clear h1
    have z0 : ∀ (o : Obj) w1, Below (w.alloc o).heap.size (w.alloc o) w1 → w1.heap[w.heap.size]? = (w.alloc o).heap[w.heap.size]? := fun o w1 hb => hb.block _ (by simp)
    cases d with
    | false =>
      have hv2 : fileB ⟨p, false, q, bs, wr⟩ = v := by simpa using hv
      have HV : Hid _ := hv2
      clear hv hv2 CD
      go_enter Tryz.func49, Tryz.ntmps49
      go_wp2_with (first
        | (go_at_call 74; refine (isPath_val p true _ HS.out H1.out).mono ?_; rintro e w1 ⟨rfl, c1⟩; have C1 : Hid _ := bel_tr (bel_al _ _) c1; have y0 := bel_cell c1 (World.cell?_alloc_new w _ _ 0); have y1 := bel_cell c1 (World.cell?_alloc_new w _ _ 1); have y2 := bel_cell c1 (World.cell?_alloc_new w _ _ 2); have y3 := bel_cell c1 (World.cell?_alloc_new w _ _ 3); have y4 := bel_cell c1 (World.cell?_alloc_new w _ _ 4); clear c1)
        | (go_at_call 76; refine (CF.out _ v C1.out HV.out).mono ?_; rintro e w2 ⟨rfl, c2⟩))
      go_ret
      exact ⟨rfl, bel_tr C1.out c2⟩
    | true =>
      have hv2 : dirB ⟨p, true, q, bs, wr⟩ = v := by simpa using hv
      have HV : Hid _ := hv2
      clear hv hv2 CF
      go_enter Tryz.func49, Tryz.ntmps49
      go_wp2_with (first
        | (go_at_call 74; refine (isPath_val p true _ HS.out H1.out).mono ?_; rintro e w1 ⟨rfl, c1⟩; have C1 : Hid _ := bel_tr (bel_al _ _) c1; have y0 := bel_cell c1 (World.cell?_alloc_new w _ _ 0); have y1 := bel_cell c1 (World.cell?_alloc_new w _ _ 1); have y2 := bel_cell c1 (World.cell?_alloc_new w _ _ 2); have y3 := bel_cell c1 (World.cell?_alloc_new w _ _ 3); have y4 := bel_cell c1 (World.cell?_alloc_new w _ _ 4); clear c1)
        | (go_at_call 75; refine (CD.out _ v C1.out HV.out).mono ?_; rintro e w2 ⟨rfl, c2⟩))
      go_ret
      exact ⟨rfl, bel_tr C1.out c2⟩

end Go.Proofs.YtigomhilcnnjdaaGreat

/- The contracts of tree.Find, refuseDir, refuseParent, Right. -/
namespace Go.Proofs.YtigomhilcnnjdaaGreat
open Go.RowKit

theorem Nds.at {w : World} {a : Option Addr} {b off : Nat} {ps : List NR} (h : Nds w a b off ps) {i : Nat} (hi : i < ps.length) :
    w.cell? ⟨b, off + i * 5, none⟩ = some (.string ps[i].1.path) ∧ w.cell? ⟨b, off + i * 5 + 1, none⟩ = some (.bool ps[i].1.dir) ∧ w.cell? ⟨b, off + i * 5 + 2, none⟩ = some (.int .i64 ps[i].1.quota) ∧ w.cell? ⟨b, off + i * 5 + 3, none⟩ = some (.slice ps[i].2.a ps[i].2.n ps[i].2.c) ∧ w.cell? ⟨b, off + i * 5 + 4, none⟩ = some (.int .i64 ps[i].1.wr) :=
  ⟨h.cell i hi 0 _ rfl, h.cell i hi 1 _ rfl, h.cell i hi 2 _ rfl, h.cell i hi 3 _ rfl, h.cell i hi 4 _ rfl⟩

theorem same_eq (p q : ByteArray) : (p.toList == q.toList) = decide (p = q) := by
  rw [Lib.toList_data, Lib.toList_data]
  by_cases h : p = q
  · subst h; simp
  · rw [decide_eq_false h, beq_eq_false_iff_ne]
    intro e
    exact h (ba_inj e)

set_option maxRecDepth 100000 in
theorem find1_val (x : NR) (p : ByteArray) (T : Nat) (v : Bool) (w : World) (hT : w.cell? ⟨T, 0, none⟩ = some (.string p)) (hv : decide (x.1.path = p) = v) :
    Calls Tryz.prog 105 #[ndV x, .pointer (some ⟨T, 0, none⟩)] w fun e w' => e = .returned (.bool v) ∧ Below w.heap.size w w' := by
  obtain ⟨⟨q, d, qu, bs, wr⟩, ⟨a, n, c⟩⟩ := x
  have hTa := cell_al hT
  have hv2 : (q.toList == p.toList) = v := by rw [same_eq]; exact hv
  unfold ndV
  clear hT hv
  go_enter Tryz.func105, Tryz.ntmps105
  go_wp2
  go_ret
  exact ⟨rfl, bel_al _ _⟩

set_option maxRecDepth 100000 in
set_option maxHeartbeats 1000000 in
theorem indexFunc_val {a : Option Addr} {n c b off : Nat} {ps : List NR} {w : World} (h : Nds w a b off ps) (hn : ps.length = n) (T : Nat) (p : ByteArray) (hT : w.cell? ⟨T, 0, none⟩ = some (.string p)) (I : Int) (hI : findI (ps.map (·.1)) p = I) :
    Calls Tryz.prog 104 #[.slice a n c, .func (.func 105) #[] #[.pointer (some ⟨T, 0, none⟩)]] w fun e w' => e = .returned (.int .i64 I) ∧ Below w.heap.size w w' := by
  have HC : Hid (Nds w a b off ps) := h
  have hlid := h.len
  unfold maxLen at hlid
  rw [hn] at hlid
  have HN : Hid (ps.length = n) := hn
  have HT : Hid _ := hT
  have HI : Hid _ := hI
  clear h hn hT hI
  go_enter Tryz.func104, Tryz.ntmps104
  go_wp2
  go_loopw [5, 8] (fun _ v8 wr => ∃ i : Nat, i ≤ n ∧ v8 = .int .i64 i ∧ Below w.heap.size w wr ∧ ∀ j (hj : j < ps.length), j < i → ps[j].1.path ≠ p) (fun _ v8 _ => n - (intOf v8).toNat)
  case atStart => exact ⟨0, by omega, rfl, Below.refl _ _, fun j hj hj0 => by omega⟩
  case round =>
    obtain ⟨i, hi, rfl, hb, hall⟩ := hrel
    have HB : Hid _ := hb
    have HA : Hid (∀ j (hj : j < ps.length), j < i → ps[j].1.path ≠ p) := hall
    by_cases hlt : i < n
    · have hi2 : i < ps.length := by rw [HN.out]; exact hlt
      obtain ⟨e0, e1, e2, e3, e4⟩ := (HC.out.below hb).at hi2
      obtain rfl := (HC.out.below hb).addr (by omega)
      have hTr := bel_cell hb HT.out
      have HX : Hid (decide (ps[i].1.path = p) = true → findI (ps.map (·.1)) p = (i : Int)) := fun hp => by
        have : at? (ps.map (·.1)) p = some i := at_is (by simpa using hi2) (by simpa using hp) (fun j hj => by
          have := hall j (by omega) hj
          simpa using this)
        unfold findI; rw [this]
      have HY : Hid (decide (ps[i].1.path = p) = false → ∀ j (hj : j < ps.length), j < i + 1 → ps[j].1.path ≠ p) := fun hp j hj hji => by
        rcases Nat.lt_or_ge j i with h | h
        · exact hall j hj h
        · obtain rfl : j = i := by omega
          simpa using hp
      generalize ps[i] = x at *
      obtain ⟨⟨q, d, qu, bs, wb⟩, ⟨sa, sn, sc⟩⟩ := x
      have CD : Hid (∀ v, decide (q = p) = v → Calls Tryz.prog 105 #[ndV ⟨⟨q, d, qu, bs, wb⟩, ⟨sa, sn, sc⟩⟩, .pointer (some ⟨T, 0, none⟩)] wr fun e w' => e = .returned (.bool v) ∧ Below wr.heap.size wr w') := fun v hv => find1_val ⟨⟨q, d, qu, bs, wb⟩, ⟨sa, sn, sc⟩⟩ p T v wr hTr hv
      unfold ndV at CD
      simp only at e0 e1 e2 e3 e4 HX HY CD
      clear hb hall hTr
      cases hv : decide (q = p) with
      | true =>
        have HV : Hid _ := hv
        have hII : I = (i : Int) := by rw [← HI.out]; exact HX.out hv
        subst hII
        clear hv
        go_wp2_with (refine (CD.out true HV.out).mono ?_; rintro e w1 ⟨rfl, hb1⟩)
        go_ret
        exact ⟨rfl, bel_tr HB.out hb1⟩
      | false =>
        have HV : Hid _ := hv
        clear hv
        go_wp2_with (refine (CD.out false HV.out).mono ?_; rintro e w1 ⟨rfl, hb1⟩)
        go_roundw
        case rel => exact ⟨i + 1, by omega, by go_num, bel_tr HB.out hb1, HY.out HV.out⟩
        case measure => simp [intOf]; omega
    · obtain rfl : i = n := by omega
      have hgd : decide ((i : Int) < (i : Int)) = false := decide_eq_false (by omega)
      have hII : I = -1 := by
        have : at? (ps.map (·.1)) p = none := at_no (fun x hx => by
          obtain ⟨y, hy, rfl⟩ := List.mem_map.1 hx
          obtain ⟨j, hj, rfl⟩ := List.getElem_of_mem hy
          exact hall j hj (by have := HN.out; omega))
        rw [← HI.out]; unfold findI; rw [this]
      subst hII
      clear hb hall hlt
      go_wp2
      go_ret
      exact ⟨rfl, HB.out⟩

set_option maxRecDepth 100000 in
theorem find_val {a : Option Addr} {n c : Nat} {xs : NS} {w : World} (h : NL w a n xs) (p : ByteArray) (I : Int) (hI : findI xs p = I) :
    Calls Tryz.prog 94 #[.slice a n c, .string p] w fun e w' => e = .returned (.int .i64 I) ∧ Below w.heap.size w w' := by
  obtain ⟨b, off, ps, h1, h2, h3⟩ := h.ex
  have CI : Hid (∀ o, Calls Tryz.prog 104 #[.slice a n c, .func (.func 105) #[] #[.pointer (some ⟨w.heap.size, 0, none⟩)]] (w.alloc (.cells #[.string p] o)) fun e w' => e = .returned (.int .i64 I) ∧ Below (w.alloc (.cells #[.string p] o)).heap.size (w.alloc (.cells #[.string p] o)) w') := fun o =>
    indexFunc_val (h3.below (bel_al _ _)) (by rw [← h2, ← h1, List.length_map]) w.heap.size p (World.cell?_alloc_new w _ _ 0) I (by rw [h1]; exact hI)
  clear h h3 hI
  go_enter Tryz.func94, Tryz.ntmps94
  go_wp2_with (refine (CI.out _).mono ?_; rintro e w1 ⟨rfl, c1⟩)
  go_ret
  exact ⟨rfl, bel_tr (bel_al _ _) c1⟩

theorem findI_cases (xs : NS) (p : ByteArray) : (at? xs p = none ∧ findI xs p = -1 ∧ dirE xs p = 5) ∨ ∃ i, at? xs p = some i ∧ findI xs p = (i : Int) ∧ ∃ hi : i < xs.length, dirE xs p = if xs[i].dir then 0 else 7 := by
  cases h : at? xs p with
  | none => exact .inl ⟨rfl, by unfold findI; rw [h], by unfold dirE; rw [h]⟩
  | some i =>
    obtain ⟨hi, _⟩ := at_some h
    refine .inr ⟨i, rfl, by unfold findI; rw [h], hi, ?_⟩
    unfold dirE; rw [h]
    simp [List.getElem?_eq_getElem hi]

set_option maxRecDepth 100000 in
set_option maxHeartbeats 1000000 in
theorem refuseDir_val {a : Option Addr} {n c : Nat} {xs : NS} {w : World} (h : NL w a n xs) (p : ByteArray) (E : Int) (hE : dirE xs p = E) :
    Calls Tryz.prog 78 #[.slice a n c, .string p] w fun e w' => e = .returned (.int .i64 E) ∧ Below w.heap.size w w' := by
  have CF : Hid (∀ I, findI xs p = I → Calls Tryz.prog 94 #[.slice a n c, .string p] w fun e w' => e = .returned (.int .i64 I) ∧ Below w.heap.size w w') := fun I hI => find_val h p I hI
  rcases findI_cases xs p with ⟨h1, h2, h3⟩ | ⟨i, h1, h2, hi, h3⟩
  · have hE5 : E = 5 := hE.symm.trans h3
    subst hE5
    have H2 : Hid _ := h2
    clear hE h h1 h2 h3
    go_enter Tryz.func78, Tryz.ntmps78
    go_wp2_with (refine (CF.out _ H2.out).mono ?_; rintro e w1 ⟨rfl, c1⟩)
    go_ret
    exact ⟨rfl, c1⟩
  · have H2 : Hid _ := h2
    obtain ⟨b, off, ps, k1, k2, k3⟩ := h.ex
    have hip : i < ps.length := by rw [← List.length_map (f := (·.1)), k1]; exact hi
    have hin : i < n := by rw [← k2]; exact hi
    have hlid := h.lid
    unfold maxLen at hlid
    have e1 := (k3.at hip).2.1
    obtain rfl := k3.addr (by omega)
    have ed : ps[i].1.dir = xs[i].dir := by subst k1; simp
    rw [ed] at e1
    have H1 : Hid (w.cell? ⟨b, off + i * 5 + 1, none⟩ = some (.bool xs[i].dir)) := e1
    rw [h3] at hE
    clear h h1 h2 h3 e1 k3 hip ed
    generalize xs[i].dir = d at *
    cases d with
    | true =>
      have hE2 : E = 0 := by simpa using hE.symm
      subst hE2
      clear hE
      go_enter Tryz.func78, Tryz.ntmps78
      go_wp2_with (refine (CF.out _ H2.out).mono ?_; rintro e w1 ⟨rfl, c1⟩; have c1c := bel_cell c1 H1.out)
      go_ret
      exact ⟨rfl, c1⟩
    | false =>
      have hE2 : E = 7 := by simpa using hE.symm
      subst hE2
      clear hE
      go_enter Tryz.func78, Tryz.ntmps78
      go_wp2_with (refine (CF.out _ H2.out).mono ?_; rintro e w1 ⟨rfl, c1⟩; have c1c := bel_cell c1 H1.out)
      go_ret
      exact ⟨rfl, c1⟩

set_option maxRecDepth 100000 in
theorem refuseParent_val {a : Option Addr} {n c : Nat} {xs : NS} {w : World} (h : NL w a n xs) (p : ByteArray) (hs : p.size ≤ maxLen) (E : Int) (hE : dirE xs (parD p) = E) :
    Calls Tryz.prog 50 #[.slice a n c, .string p] w fun e w' => e = .returned (.int .i64 E) ∧ Below w.heap.size w w' := by
  obtain ⟨⟨d, m, F⟩, hP⟩ : ∃ x, parentX p = x := ⟨_, rfl⟩
  have HP : Hid (parentX p = (d, m, F)) := hP
  have hd : parD p = d := by unfold parD; rw [hP]
  rw [hd] at hE
  have CR : Hid (∀ W, Below w.heap.size w W → Calls Tryz.prog 78 #[.slice a n c, .string d] W fun e w' => e = .returned (.int .i64 E) ∧ Below W.heap.size W w') := fun W hb => refuseDir_val (h.below hb) d E hE
  clear h hE hd hP
  go_enter Tryz.func50, Tryz.ntmps50
  go_wp2_with (first
    | (go_at_call 77; refine (parent_val p d m F _ hs HP.out).mono ?_; rintro e w1 ⟨rfl, c1⟩)
    | (go_at_call 78; refine (CR.out _ c1).mono ?_; rintro e w2 ⟨rfl, c2⟩))
  go_ret
  exact ⟨rfl, bel_tr c1 c2⟩

end Go.Proofs.YtigomhilcnnjdaaGreat

/- The contract of tree.Right. -/
namespace Go.Proofs.YtigomhilcnnjdaaGreat
open Go.RowKit

/-- What is asked of the i-th node, i not 0. -/
structure OkAt (xs : NS) (i : Nat) : Prop where
  fit : ∀ h : i < xs.length, fitsB xs[i] = true
  asc : ∀ h : i < xs.length, ltB (xs[i - 1]'(by omega)).path xs[i].path = true
  par : ∀ h : i < xs.length, dirE xs (parD xs[i].path) = 0

theorem right_iff {xs : NS} : Right xs ↔ 0 < xs.length ∧ xs.length ≤ 60 ∧ (∀ h : 0 < xs.length, xs[0].path = rootP ∧ fitsB xs[0] = true) ∧ ∀ i, 1 ≤ i → i < xs.length → OkAt xs i := by
  constructor
  · intro h
    refine ⟨h.pos, h.few, fun hp => ⟨h.root hp, h.fit _ (List.getElem_mem hp)⟩, fun i hi hl => ⟨fun _ => h.fit _ (List.getElem_mem hl), fun _ => ?_, fun _ => h.par i hl hi⟩⟩
    have := h.asc (i - 1) (by omega)
    have e : i - 1 + 1 = i := by omega
    simp only [e] at this
    exact this
  · rintro ⟨h1, h2, h3, h4⟩
    refine ⟨h1, h2, fun hp => (h3 hp).1, fun x hx => ?_, fun i hl => ?_, fun i hl hi => (h4 i hi hl).par hl⟩
    · obtain ⟨j, hj, rfl⟩ := List.getElem_of_mem hx
      rcases Nat.eq_zero_or_pos j with rfl | hp
      · exact (h3 h1).2
      · exact (h4 j hp hj).fit hj
    · exact (h4 (i + 1) (by omega) hl).asc hl

set_option maxRecDepth 100000 in
set_option maxHeartbeats 2000000 in
theorem right_val {a : Option Addr} {n c : Nat} {xs : NS} {w : World} (h : NL w a n xs) (u : Bool) (hu : u = true ↔ Right xs) :
    Calls Tryz.prog 30 #[.slice a n c] w fun e w' => e = .returned (.bool u) ∧ Below w.heap.size w w' := by
  have HL : Hid (NL w a n xs) := h
  rw [right_iff] at hu
  obtain ⟨b, off, ps, k1, k2, k3⟩ := h.ex
  have hlid := h.lid
  unfold maxLen at hlid
  have HK : Hid (Nds w a b off ps) := k3
  have hpl : ps.length = n := by rw [← k2, ← k1, List.length_map]
  have HP : Hid (ps.length = n) := hpl
  have HM : Hid (ps.map (·.1) = xs) := k1
  have HXL : Hid (xs.length = n) := k2
  have HAT : Hid (∀ i (hi : i < ps.length) (hx : i < xs.length), ps[i].1 = xs[i]) := fun i hi hx => by subst k1; simp
  have HU : Hid (u = true ↔ 0 < n ∧ n ≤ 60 ∧ (∀ h : 0 < xs.length, xs[0].path = rootP ∧ fitsB xs[0] = true) ∧ ∀ i, 1 ≤ i → i < n → OkAt xs i) := by subst k2; exact hu
  clear h hu k1 k2 k3 hpl
  by_cases h0 : n = 0
  · have hu0 : u = false := by
      rw [Bool.eq_false_iff]; intro e
      have := (HU.out.1 e).1; omega
    subst hu0 h0
    go_enter Tryz.func30, Tryz.ntmps30
    go_wp2
    go_ret
    exact ⟨rfl, Below.refl _ _⟩
  by_cases h60 : 60 < n
  · have hu0 : u = false := by
      rw [Bool.eq_false_iff]; intro e
      have := (HU.out.1 e).2.1; omega
    subst hu0
    have e1 : decide ((n : Int) < 1) = false := decide_eq_false (by omega)
    have e2 : decide ((60 : Int) < (n : Int)) = true := decide_eq_true (by omega)
    go_enter Tryz.func30, Tryz.ntmps30
    go_wp2
    go_ret
    exact ⟨rfl, Below.refl _ _⟩
  have e1 : decide ((n : Int) < 1) = false := decide_eq_false (by omega)
  have e2 : decide ((60 : Int) < (n : Int)) = false := decide_eq_false (by omega)
  have hp0 : 0 < ps.length := by rw [HP.out]; omega
  have hx0 : 0 < xs.length := by rw [HXL.out]; omega
  obtain ⟨y0, y1, y2, y3, y4⟩ := HK.out.at hp0
  obtain rfl := HK.out.addr hp0
  have ex0 := HAT.out 0 hp0 hx0
  have hok0 := HK.out.ok _ (List.getElem_mem hp0)
  have CF0 : Hid (∀ v, fitsB ps[0].1 = v → Calls Tryz.prog 49 #[ndV ps[0]] w fun e w' => e = .returned (.bool v) ∧ Below w.heap.size w w') := fun v hv => fits_val ps[0] v w hok0 hv
  have HU0 : Hid (u = true → xs[0].path = rootP ∧ fitsB xs[0] = true) := fun e => (HU.out.1 e).2.2.1 hx0
  have HU1 : Hid (xs[0].path = rootP → fitsB xs[0] = true → (∀ i, 1 ≤ i → i < n → OkAt xs i) → u = true) := fun q1 q2 q3 => HU.out.2 ⟨by omega, by omega, fun _ => ⟨q1, q2⟩, q3⟩
  rw [← ex0] at HU0 HU1
  clear hok0 ex0
  generalize ps[0] = x0 at *
  obtain ⟨⟨q, d, qu, bs, wb⟩, ⟨sa, sn, sc⟩⟩ := x0
  unfold ndV at CF0
  simp only [Nat.zero_mul, Nat.add_zero] at y0 y1 y2 y3 y4 HU0 HU1 CF0
  cases hr : decide (q = rootP) with
  | false =>
    have hu0 : u = false := by
      rw [Bool.eq_false_iff]; intro e
      have := (HU0.out e).1
      rw [decide_eq_false_iff_not] at hr; exact hr this
    subst hu0
    have e3 : (q.toList == [47]) = false := by rw [root_eq]; exact hr
    have e4 : (q.toList != [47]) = true := by rw [bne, e3]; rfl
    clear hr HAT
    go_enter Tryz.func30, Tryz.ntmps30
    go_wp2
    go_ret
    exact ⟨rfl, Below.refl _ _⟩
  | true =>
    have e3 : (q.toList == [47]) = true := by rw [root_eq]; exact hr
    have e4 : (q.toList != [47]) = false := by rw [bne, e3]; rfl
    have hq : q = rootP := by simpa using hr
    have HQ : Hid (q = rootP) := hq
    clear hr hq
    cases hf : fitsB ⟨q, d, qu, bs, wb⟩ with
    | false =>
      have hu0 : u = false := by
        rw [Bool.eq_false_iff]; intro e
        have := (HU0.out e).2
        rw [hf] at this; cases this
      subst hu0
      have HF : Hid _ := hf
      clear hf HAT
      go_enter Tryz.func30, Tryz.ntmps30
      go_wp2_with (refine (CF0.out false HF.out).mono ?_; rintro e w1 ⟨rfl, c1⟩)
      go_ret
      exact ⟨rfl, c1⟩
    | true =>
      have HF : Hid _ := hf
      clear hf
      go_enter Tryz.func30, Tryz.ntmps30
      go_wp2_with (refine (CF0.out true HF.out).mono ?_; rintro e w1 ⟨rfl, c1⟩)
      have HC1 : Hid (Below w.heap.size w w1) := c1
      clear c1 y0 y1 y2 y3 y4
      go_loopw [3] (fun v3 wr => ∃ i : Nat, 1 ≤ i ∧ i ≤ n ∧ v3 = .int .i64 i ∧ Below w.heap.size w wr ∧ ∀ j, 1 ≤ j → j < i → OkAt xs j) (fun v3 _ => n - (intOf v3).toNat)
      case atStart => exact ⟨1, by omega, by omega, rfl, HC1.out, fun j h1 h2 => by omega⟩
      case round =>
        obtain ⟨i, hi1, hi, rfl, hb, hall⟩ := hrel
        have HB : Hid (Below w.heap.size w wr) := hb
        have HA : Hid (∀ j, 1 ≤ j → j < i → OkAt xs j) := hall
        by_cases hlt : i < n
        · have hip : i < ps.length := by rw [HP.out]; exact hlt
          have hix : i < xs.length := by rw [HXL.out]; exact hlt
          obtain ⟨k, hk⟩ : ∃ k, i = k + 1 := ⟨i - 1, by omega⟩
          have hkp : k < ps.length := by omega
          have hkx : k < xs.length := by omega
          have hK := HK.out.below hb
          obtain ⟨z0, z1, z2, z3, z4⟩ := hK.at hip
          have zk := (hK.at hkp).1
          have hok := hK.ok _ (List.getElem_mem hip)
          have exi := HAT.out i hip hix
          have exk := HAT.out k hkp hkx
          have hOk : Hid (OkAt xs i ↔ fitsB xs[i] = true ∧ ltB xs[k].path xs[i].path = true ∧ dirE xs (parD xs[i].path) = 0) := by
            subst hk
            constructor
            · intro o; exact ⟨o.fit hix, o.asc hix, o.par hix⟩
            · rintro ⟨o1, o2, o3⟩; exact ⟨fun _ => o1, fun _ => o2, fun _ => o3⟩
          rw [← exi, ← exk] at hOk
          have HNU : Hid (¬ OkAt xs i → u = false) := fun hn => by
            rw [Bool.eq_false_iff]; intro e
            exact hn ((HU.out.1 e).2.2.2 i hi1 hlt)
          have HNX : Hid (OkAt xs i → ∀ j, 1 ≤ j → j < i + 1 → OkAt xs j) := fun ho j h1 h2 => by
            rcases Nat.lt_or_ge j i with h | h
            · exact hall j h1 h
            · obtain rfl : j = i := by omega
              exact ho
          have CF : Hid (∀ dd os v, fitsB ps[i].1 = v → Calls Tryz.prog 49 #[ndV ps[i]] (Sort.grow (redrawn wr dd) os) fun e w' => e = .returned (.bool v) ∧ Below (Sort.grow (redrawn wr dd) os).heap.size (Sort.grow (redrawn wr dd) os) w') := fun dd os v hv => fits_val ps[i] v _ (hok.below (below_regrown wr dd os)) hv
          have CP : Hid (∀ dd os E, dirE xs (parD ps[i].1.path) = E → Calls Tryz.prog 50 #[.slice (some ⟨b, off, none⟩) n c, .string ps[i].1.path] (Sort.grow (redrawn wr dd) os) fun e w' => e = .returned (.int .i64 E) ∧ Below (Sort.grow (redrawn wr dd) os).heap.size (Sort.grow (redrawn wr dd) os) w') := fun dd os E hE => refuseParent_val ((HL.out.below hb).below (below_regrown wr dd os)) _ hok.small E hE
          clear hb hall hok hK exi exk
          generalize ps[i] = x at *
          generalize ps[k] = y at *
          obtain ⟨⟨q', d', qu', bs', wb'⟩, ⟨sa', sn', sc'⟩⟩ := x
          obtain ⟨⟨q2, d2, qu2, bs2, wb2⟩, ⟨sa2, sn2, sc2⟩⟩ := y
          unfold ndV at CF
          simp only at z0 z1 z2 z3 z4 zk hOk CF CP
          have r0 : ∀ dd os, (Sort.grow (redrawn wr dd) os).cell? ⟨b, off + i * 5, none⟩ = some (.string q') := fun dd os => cell_regrown z0 dd os
          have r1 : ∀ dd os, (Sort.grow (redrawn wr dd) os).cell? ⟨b, off + i * 5 + 1, none⟩ = some (.bool d') := fun dd os => cell_regrown z1 dd os
          have r2 : ∀ dd os, (Sort.grow (redrawn wr dd) os).cell? ⟨b, off + i * 5 + 2, none⟩ = some (.int .i64 qu') := fun dd os => cell_regrown z2 dd os
          have r3 : ∀ dd os, (Sort.grow (redrawn wr dd) os).cell? ⟨b, off + i * 5 + 3, none⟩ = some (.slice sa' sn' sc') := fun dd os => cell_regrown z3 dd os
          have r4 : ∀ dd os, (Sort.grow (redrawn wr dd) os).cell? ⟨b, off + i * 5 + 4, none⟩ = some (.int .i64 wb') := fun dd os => cell_regrown z4 dd os
          have rk : ∀ dd os, (Sort.grow (redrawn wr dd) os).cell? ⟨b, off + k * 5, none⟩ = some (.string q2) := fun dd os => cell_regrown zk dd os
          have hik : (i : Int) - 1 = (k : Int) := by omega
          have hkn : k < n := by omega
          clear z0 z1 z2 z3 z4 zk
          have HIK : Hid (i = k + 1) := hk
          clear hk hip hix hkp hkx
          cases hf : fitsB ⟨q', d', qu', bs', wb'⟩ with
          | false =>
            have hu0 : u = false := HNU.out (fun o => by have := (hOk.out.1 o).1; rw [hf] at this; cases this)
            subst hu0
            have HF2 : Hid _ := hf
            clear hf
            go_wp2
            refine wp_region_quiet_below (by kernel_rfl) (by kernel_rfl) ?_
            repeat (first | go_big_quiet_step (first | exact Calls.regrown_of (CF.out _ _ false HF2.out) | fail) | quiet_step (first | exact Calls.regrown_of (CF.out _ _ false HF2.out) | fail))
            refine wpQuiet_nil ?_
            intro _ hw'
            obtain ⟨⟨dq, osq⟩, hw''⟩ := hw'
            subst hw''
            go_wp2
            go_ret
            exact ⟨rfl, bel_tr HB.out (below_regrown wr dq osq)⟩
          | true =>
            have HF2 : Hid _ := hf
            cases hl : Op.bytesLess q2.toList q'.toList with
            | false =>
              have hu0 : u = false := HNU.out (fun o => by have := (hOk.out.1 o).2.1; unfold ltB at this; rw [hl] at this; cases this)
              subst hu0
              clear hf
              go_wp2
              refine wp_region_quiet_below (by kernel_rfl) (by kernel_rfl) ?_
              repeat (first | go_big_quiet_step (first | exact Calls.regrown_of (CF.out _ _ true HF2.out) | fail) | quiet_step (first | exact Calls.regrown_of (CF.out _ _ true HF2.out) | fail))
              refine wpQuiet_nil ?_
              intro _ hw'
              obtain ⟨⟨dq, osq⟩, hw''⟩ := hw'
              subst hw''
              go_wp2
              go_ret
              exact ⟨rfl, bel_tr HB.out (below_regrown wr dq osq)⟩
            | true =>
              obtain ⟨E, hE⟩ : ∃ E, dirE xs (parD q') = E := ⟨_, rfl⟩
              have HE : Hid _ := hE
              by_cases h0E : E = 0
              · subst h0E
                have HO : Hid (OkAt xs i) := hOk.out.2 ⟨hf, hl, hE⟩
                clear hf hE
                go_wp2
                refine wp_region_quiet_below (by kernel_rfl) (by kernel_rfl) ?_
                repeat (first | go_big_quiet_step (first | exact Calls.regrown_of (CF.out _ _ true HF2.out) | exact Calls.regrown_of (CP.out _ _ _ HE.out) | fail) | quiet_step (first | exact Calls.regrown_of (CF.out _ _ true HF2.out) | exact Calls.regrown_of (CP.out _ _ _ HE.out) | fail))
                refine wpQuiet_nil ?_
                intro _ hw'
                obtain ⟨⟨dq, osq⟩, hw''⟩ := hw'
                subst hw''
                go_wp2
                go_roundw
                case rel => exact ⟨i + 1, by omega, by omega, by go_num, bel_tr HB.out (below_regrown wr dq osq), HNX.out HO.out⟩
                case measure => simp [intOf]; omega
              · have hEb : (E != 0) = true := by simpa using h0E
                have hu0 : u = false := HNU.out (fun o => by have := (hOk.out.1 o).2.2; rw [hE] at this; exact h0E this)
                subst hu0
                clear hf hE h0E
                go_wp2
                refine wp_region_quiet_below (by kernel_rfl) (by kernel_rfl) ?_
                repeat (first | go_big_quiet_step (first | exact Calls.regrown_of (CF.out _ _ true HF2.out) | exact Calls.regrown_of (CP.out _ _ _ HE.out) | fail) | quiet_step (first | exact Calls.regrown_of (CF.out _ _ true HF2.out) | exact Calls.regrown_of (CP.out _ _ _ HE.out) | fail))
                refine wpQuiet_nil ?_
                intro _ hw'
                obtain ⟨⟨dq, osq⟩, hw''⟩ := hw'
                subst hw''
                go_wp2
                go_ret
                exact ⟨rfl, bel_tr HB.out (below_regrown wr dq osq)⟩
        · obtain rfl : i = n := by omega
          have hgd : decide ((i : Int) < (i : Int)) = false := decide_eq_false (by omega)
          have hu1 : u = true := HU1.out HQ.out HF.out hall
          subst hu1
          clear hb hall hlt
          go_wp2
          go_ret
          exact ⟨rfl, HB.out⟩

end Go.Proofs.YtigomhilcnnjdaaGreat

/- The contracts of slices.Clone at blocks, tree.copied, tabulariumref07.Copy. -/
namespace Go.Proofs.YtigomhilcnnjdaaGreat
open Go.RowKit

theorem info_parts3 {i : Option TypeInfo} {z : Value} {s b : Nat} (h : i.map (fun i => (i.zero, i.size, i.bytes)) = some (some z, s, b)) : ∃ j, i = some j ∧ j.zero = some z ∧ j.size = s ∧ j.bytes = b := by
  cases i with
  | none => cases h
  | some j => simp at h; exact ⟨j, rfl, h.1, h.2.1, h.2.2⟩
theorem blkRow : ∃ i, Tryz.prog.info? 81 = some i ∧ i.zero = some (.agg #[.int .i64 0, .int .i64 0, .int .i64 0]) ∧ i.size = 3 ∧ i.bytes = 24 :=
  info_parts3 (show (Tryz.prog.info? 81).map (fun i => (i.zero, i.size, i.bytes)) = some (some (.agg #[.int .i64 0, .int .i64 0, .int .i64 0]), 3, 24) by kernel_rfl)
theorem ndRow : ∃ i, Tryz.prog.info? 55 = some i ∧ i.zero = some (.agg #[.string ⟨#[]⟩, .bool false, .int .i64 0, .slice none 0 0, .int .i64 0]) ∧ i.size = 5 ∧ i.bytes = 64 :=
  info_parts3 (show (Tryz.prog.info? 55).map (fun i => (i.zero, i.size, i.bytes)) = some (some (.agg #[.string ⟨#[]⟩, .bool false, .int .i64 0, .slice none 0 0, .int .i64 0]), 5, 64) by kernel_rfl)

/-- Blocks as what is appended. -/
theorem Blks.src {w : World} {s : RS} {bs : List Blk} (h : Blks w s bs) (hc : s.a = none → s.n = 0) : Src Tryz.prog 3 53 (.slice s.a s.n s.c) s.n (rowC blkC bs) w := by
  obtain ⟨a, n, c⟩ := s
  have hl : bs.length = n := h.len
  by_cases h0 : n = 0
  · subst h0
    have e : bs = [] := List.length_eq_zero_iff.1 hl
    subst e
    cases a with
    | none => exact Src.ofNil w Tryz.underlying53 _
    | some x => exact Src.ofSlice w Tryz.underlying53 x 0 _ [] (by simp) (fun j u hu => by simp at hu) (fun u hu => by cases hu)
  · obtain ⟨b, off, ha, hcell⟩ := h.cells (by show 0 < n; omega)
    simp only at ha
    subst ha
    refine Src.ofSlice w Tryz.underlying53 ⟨b, off, none⟩ n _ _ (by rw [rowC_len wideB, hl]) (fun j u hu => ?_) (rowC_oneCell wideB _)
    rw [Addr.add_lit]
    have hj : j < (rowC blkC bs).length := (List.getElem?_eq_some_iff.1 hu).1
    rw [rowC_len wideB] at hj
    have e := rowC_at wideB bs (j / 3) (by omega) (j % 3) (by omega)
    have e2 : j / 3 * 3 + j % 3 = j := by omega
    rw [e2, hu] at e
    have := hcell (j / 3) (by omega) (j % 3) u e.symm
    rw [show off + j / 3 * 3 + j % 3 = off + j by omega] at this
    exact this

/-- What was appended, as blocks of the call's own. -/
theorem free_of_cel {base : Nat} {w : World} {a : Option Addr} {n c : Nat} {bs : List Blk} {g : Option Nat} (h : Cel (fun k => base ≤ k) w 3 (.slice a n c) n (rowC blkC bs) g) (hl : bs.length = n) {x : Nd} (hx : x.bs = bs) (hs : x.path.size ≤ maxLen) : Free base w (x, ⟨a, n, c⟩) := by
  obtain ⟨hc1, hc2, _⟩ := h.cap2
  subst hx
  refine ⟨⟨hs, hl, by show n ≤ maxLen; omega, fun ha => ?_, fun hp => ?_⟩, fun hp => ?_⟩
  · cases h with
    | nil h1 h2 h3 => cases h1; rfl
    | row g cap h1 hl h2 h3 h4 h5 h6 h7 => cases h1; cases ha
  · obtain ⟨b, h1, h2⟩ := h.at2 hp
    subst h2
    refine ⟨b, 0, h1, fun j hj i v hv => ?_⟩
    obtain ⟨b', e1, e2, e3⟩ := h.elem wideB hj hl
    cases e2
    rw [Nat.zero_add]; exact e3 i v hv
  · obtain ⟨b, h1, h2⟩ := h.at2 hp
    subst h2
    refine ⟨b, h1, h.lt.2, fun j hj => ?_⟩
    have hp' : n * 3 ≤ c * 3 := Nat.mul_le_mul_right _ hc1
    have hj' : j < n * 3 := hj
    exact h.live j (by omega)

theorem grow_base {base : Nat} {w w' : World} (hB : base ≤ w.heap.size) {size : Nat} {sl : Value} {n : Nat} {cs : List Value} {g : Option Nat} {O : Nat → Prop} (hO : ∀ k, O k → base ≤ k) (h : Cel (Grow O w w') w' size sl n cs g) : Cel (fun k => base ≤ k) w' size sl n cs g :=
  h.stay (Nat.le_refl _) (fun _ _ => rfl) (fun k hk => hk.elim (hO k) (fun e => Nat.le_trans hB e.1))

theorem run_store_str (w : World) (a : Addr) (x : ByteArray) (m : Mode) : (store a (.string x) m).run Tryz.prog w = stored Tryz.prog w a (.string x) m := run_store Tryz.prog w a _ m rfl
theorem froz_al {w : World} {a : Addr} {v : Value} (h : w.cell? a = some v) (h2 : w.frozen? a = false) (o : Obj) : (w.alloc o).frozen? a = false :=
  (World.frozen?_of_block (((Below.refl w.heap.size w).alloc (Nat.le_refl _) o).block a.block (World.block_lt_of_cell? _ _ h))).trans h2

structure CloneR (base n : Nat) (bs : List Blk) (e : Ending) (w' : World) : Prop where
  ex : ∃ a c g, e = .returned (.slice a n c) ∧ Cel (fun k => base ≤ k) w' 3 (.slice a n c) n (rowC blkC bs) g
/-- A copy of a node. -/
structure CopyR (base : Nat) (x : Nd) (e : Ending) (w' : World) : Prop where
  ex : ∃ s, e = .returned (ndV (x, s)) ∧ Free base w' (x, s)

theorem nilBlks (w : World) (a : Option Addr) (n c : Nat) : (binOp .eql 53 (.slice a n c) (.slice none 0 0)).run Tryz.prog w = .ok (.bool a.isNone) w := Lib.run_eql_slice_nil w 53 81 a n c 0 0 Tryz.underlying53

/-- A block that is left alone while two others are written. -/
theorem Stay.free {base : Nat} {w w' : World} {O : Nat → Prop} {x : NR} (h : Free base w x) (hs : Stay O w w') (ho : ∀ k, x.2.blk = some k → ¬ O k) : Free base w' x :=
  h.keep fun k hk => hs.block k (h.ok.bs.lt k hk) (ho k hk)

theorem Free.blk_ge {base : Nat} {w : World} {x : NR} (h : Free base w x) : ∀ k, x.2.blk = some k → base ≤ k := by
  intro k hk
  unfold RS.blk at hk
  split at hk
  · cases hk
  · rename_i hn
    obtain ⟨b, ha, hb, _⟩ := h.own (by omega)
    rw [ha] at hk
    have e : b = k := by simpa using hk
    omega

theorem run_store_any (w : World) (a : Addr) (x : Value) (m : Mode) (h : x.oneCell' = true) : (store a x m).run Tryz.prog w = stored Tryz.prog w a x m := run_store Tryz.prog w a _ m h

theorem other_cell (w : World) (b i j : Nat) (v : Value) (h : i ≠ j) : (w.setCell ⟨b, i, none⟩ v).cell? ⟨b, j, none⟩ = w.cell? ⟨b, j, none⟩ :=
  World.cell?_setCell_other _ _ _ _ (by intro e; cases e; exact h rfl)
theorem other_block (w : World) (b c i j : Nat) (v : Value) (h : b ≠ c) : (w.setCell ⟨b, i, none⟩ v).cell? ⟨c, j, none⟩ = w.cell? ⟨c, j, none⟩ :=
  World.cell?_setCell_other _ _ _ _ (by intro e; cases e; exact h rfl)

/-- Five cells are written. -/
theorem five {X : World} {R : Nat} {u0 u1 u2 u3 u4 : Value} (h0 : X.cell? ⟨R, 0, none⟩ = some u0) (h1 : X.cell? ⟨R, 1, none⟩ = some u1) (h2 : X.cell? ⟨R, 2, none⟩ = some u2) (h3 : X.cell? ⟨R, 3, none⟩ = some u3) (h4 : X.cell? ⟨R, 4, none⟩ = some u4) (v0 v1 v2 v3 v4 : Value) :
    (((((X.setCell ⟨R, 0, none⟩ v0).setCell ⟨R, 1, none⟩ v1).setCell ⟨R, 2, none⟩ v2).setCell ⟨R, 3, none⟩ v3).setCell ⟨R, 4, none⟩ v4).cell? ⟨R, 0, none⟩ = some v0 ∧
    (((((X.setCell ⟨R, 0, none⟩ v0).setCell ⟨R, 1, none⟩ v1).setCell ⟨R, 2, none⟩ v2).setCell ⟨R, 3, none⟩ v3).setCell ⟨R, 4, none⟩ v4).cell? ⟨R, 1, none⟩ = some v1 ∧
    (((((X.setCell ⟨R, 0, none⟩ v0).setCell ⟨R, 1, none⟩ v1).setCell ⟨R, 2, none⟩ v2).setCell ⟨R, 3, none⟩ v3).setCell ⟨R, 4, none⟩ v4).cell? ⟨R, 2, none⟩ = some v2 ∧
    (((((X.setCell ⟨R, 0, none⟩ v0).setCell ⟨R, 1, none⟩ v1).setCell ⟨R, 2, none⟩ v2).setCell ⟨R, 3, none⟩ v3).setCell ⟨R, 4, none⟩ v4).cell? ⟨R, 3, none⟩ = some v3 ∧
    (((((X.setCell ⟨R, 0, none⟩ v0).setCell ⟨R, 1, none⟩ v1).setCell ⟨R, 2, none⟩ v2).setCell ⟨R, 3, none⟩ v3).setCell ⟨R, 4, none⟩ v4).cell? ⟨R, 4, none⟩ = some v4 := by
  refine ⟨?_, ?_, ?_, ?_, ?_⟩
  · rw [other_cell _ _ _ _ _ (by omega), other_cell _ _ _ _ _ (by omega), other_cell _ _ _ _ _ (by omega), other_cell _ _ _ _ _ (by omega)]
    exact World.cell?_setCell_same _ _ _ h0
  · rw [other_cell _ _ _ _ _ (by omega), other_cell _ _ _ _ _ (by omega), other_cell _ _ _ _ _ (by omega)]
    exact World.cell?_setCell_same _ _ _ ((other_cell _ _ _ _ _ (by omega)).trans h1)
  · rw [other_cell _ _ _ _ _ (by omega), other_cell _ _ _ _ _ (by omega)]
    exact World.cell?_setCell_same _ _ _ ((other_cell _ _ _ _ _ (by omega)).trans ((other_cell _ _ _ _ _ (by omega)).trans h2))
  · rw [other_cell _ _ _ _ _ (by omega)]
    exact World.cell?_setCell_same _ _ _ ((other_cell _ _ _ _ _ (by omega)).trans ((other_cell _ _ _ _ _ (by omega)).trans ((other_cell _ _ _ _ _ (by omega)).trans h3)))
  · exact World.cell?_setCell_same _ _ _ ((other_cell _ _ _ _ _ (by omega)).trans ((other_cell _ _ _ _ _ (by omega)).trans ((other_cell _ _ _ _ _ (by omega)).trans ((other_cell _ _ _ _ _ (by omega)).trans h4))))

theorem Stay.five {O : Nat → Prop} (X : World) (R : Nat) (v0 v1 v2 v3 v4 : Value) (h : O R) : Stay O X (((((X.setCell ⟨R, 0, none⟩ v0).setCell ⟨R, 1, none⟩ v1).setCell ⟨R, 2, none⟩ v2).setCell ⟨R, 3, none⟩ v3).setCell ⟨R, 4, none⟩ v4) :=
  ((((Stay.setCell X _ _ h).then_same (Stay.setCell _ _ _ h)).then_same (Stay.setCell _ _ _ h)).then_same (Stay.setCell _ _ _ h)).then_same (Stay.setCell _ _ _ h)

/-- A boxed node and a result's five cells, behind a callee. -/
theorem two_boxes {w : World} {cs ds : Array Value} {t1 t2 : TypeId} {w2 : World} (hb : Below ((w.alloc (.cells cs t1)).alloc (.cells ds t2)).heap.size ((w.alloc (.cells cs t1)).alloc (.cells ds t2)) w2) :
    (∀ j v, cs[j]? = some v → w2.cell? ⟨w.heap.size, j, none⟩ = some v) ∧ (∀ j, w2.frozen? ⟨w.heap.size, j, none⟩ = false) ∧ (∀ j v, ds[j]? = some v → w2.cell? ⟨w.heap.size + 1, j, none⟩ = some v) ∧ (∀ j, w2.frozen? ⟨w.heap.size + 1, j, none⟩ = false) ∧ Below w.heap.size w w2 ∧ w.heap.size + 2 ≤ w2.heap.size := by
  have hz : (w.alloc (.cells cs t1)).heap.size = w.heap.size + 1 := by simp
  have e0 : ∀ j, ((w.alloc (.cells cs t1)).alloc (.cells ds t2)).cell? ⟨w.heap.size, j, none⟩ = cs[j]? := fun j => by
    rw [((Below.refl _ (w.alloc (.cells cs t1))).alloc (Nat.le_refl _) (.cells ds t2)).cell (p := ⟨w.heap.size, j, none⟩) (by rw [hz]; exact Nat.lt_succ_self _)]
    exact World.cell?_alloc_new w cs t1 j
  have e1 : ∀ j, ((w.alloc (.cells cs t1)).alloc (.cells ds t2)).cell? ⟨w.heap.size + 1, j, none⟩ = ds[j]? := fun j => by
    have := World.cell?_alloc_new (w.alloc (.cells cs t1)) ds t2 j
    rwa [hz] at this
  have f0 : ∀ j, ((w.alloc (.cells cs t1)).alloc (.cells ds t2)).frozen? ⟨w.heap.size, j, none⟩ = false := fun j => by
    rw [World.frozen?_of_block (a := ⟨w.heap.size, j, none⟩) (((Below.refl _ (w.alloc (.cells cs t1))).alloc (Nat.le_refl _) (.cells ds t2)).block w.heap.size (by rw [hz]; exact Nat.lt_succ_self _))]
    exact World.frozen?_alloc_new w cs t1 j
  have f1 : ∀ j, ((w.alloc (.cells cs t1)).alloc (.cells ds t2)).frozen? ⟨w.heap.size + 1, j, none⟩ = false := fun j => by
    have := World.frozen?_alloc_new (w.alloc (.cells cs t1)) ds t2 j
    rwa [hz] at this
  have l0 : w.heap.size < ((w.alloc (.cells cs t1)).alloc (.cells ds t2)).heap.size := by simp; omega
  have l1 : w.heap.size + 1 < ((w.alloc (.cells cs t1)).alloc (.cells ds t2)).heap.size := by simp
  have s2 : ((w.alloc (.cells cs t1)).alloc (.cells ds t2)).heap.size = w.heap.size + 2 := by simp
  refine ⟨fun j v hv => ((hb.cell (p := ⟨w.heap.size, j, none⟩) l0).trans (e0 j)).trans hv, fun j => (World.frozen?_of_block (a := ⟨w.heap.size, j, none⟩) (hb.block _ l0)).trans (f0 j), fun j v hv => ((hb.cell (p := ⟨w.heap.size + 1, j, none⟩) l1).trans (e1 j)).trans hv, fun j => (World.frozen?_of_block (a := ⟨w.heap.size + 1, j, none⟩) (hb.block _ l1)).trans (f1 j), ?_, ?_⟩
  · exact bel_tr (bel_tr (bel_al _ _) (bel_al _ _)) hb
  · rw [← s2]; exact hb.size

end Go.Proofs.YtigomhilcnnjdaaGreat

/- The contracts of tabulariumref07.Copy, tree.chosen. -/
namespace Go.Proofs.YtigomhilcnnjdaaGreat
open Go.RowKit

theorem Blks.none0 {w : World} {s : RS} {bs : List Blk} (h : Blks w s bs) : s.a = none → s.n = 0 := fun ha => by
  rcases Nat.eq_zero_or_pos s.n with h0 | h0
  · exact h0
  · obtain ⟨b, off, e, _⟩ := h.cells h0
    rw [ha] at e; cases e

/-- Nodes are appended. -/
theorem Lot.app {base : Nat} {w w' : World} {a a' : Option Addr} {n c m c' : Nat} {ps qs : List NR} {g g' : Option Nat} (h : Lot base w a n c ps g) (hq : ∀ x ∈ qs, Free base w x) (hqg : ∀ x ∈ qs, ∀ k, g = some k → x.2.blk ≠ some k) (hm : qs.length = m)
    (hC : Cel (Grow (fun k => base ≤ k) w w') w' 5 (.slice a' (n + m) c') (n + m) (rowC ndC ps ++ rowC ndC qs) g') (hS : Stay (fun k => g = some k) w w') (hg : ∀ k, g' = some k → g = some k ∨ w.heap.size ≤ k) (hB : base ≤ w.heap.size) : Lot base w' a' (n + m) c' (ps ++ qs) g' := by
  have hall : ∀ x ∈ ps ++ qs, Free base w x ∧ ∀ k, g = some k → x.2.blk ≠ some k := fun x hx => by
    rcases List.mem_append.1 hx with hx | hx
    · exact ⟨h.ok x hx, h.ap x hx⟩
    · exact ⟨hq x hx, hqg x hx⟩
  refine ⟨?_, by rw [List.length_append, h.len, hm], fun x hx => ?_, fun x hx k hk => ?_⟩
  · rw [rowC_app]; exact grow_base hB (fun k hk => hk) hC
  · exact Stay.free (hall x hx).1 hS (fun k hk e => (hall x hx).2 k e hk)
  · rcases hg k hk with e | e
    · exact (hall x hx).2 k e
    · intro e2
      have := (hall x hx).1.ok.bs.lt k e2
      omega

theorem src_new5 (w : World) (x : NR) : Src Tryz.prog 5 23 (.slice (some ⟨w.heap.size, 0, none⟩) 1 1) 1 (rowC ndC [x]) (w.alloc (.cells #[.string x.1.path, .bool x.1.dir, .int .i64 x.1.quota, .slice x.2.a x.2.n x.2.c, .int .i64 x.1.wr] 55)) := by
  refine Src.ofSlice _ Tryz.underlying23 ⟨w.heap.size, 0, none⟩ 1 1 _ (by rw [rowC_len wideX]; simp) (fun j u hu => ?_) (rowC_oneCell wideX _)
  rw [Addr.add_lit, Nat.zero_add]
  have e := World.cell?_alloc_new w #[.string x.1.path, .bool x.1.dir, .int .i64 x.1.quota, .slice x.2.a x.2.n x.2.c, .int .i64 x.1.wr] 55 j
  refine e.trans ?_
  rw [rowC_one] at hu
  show (List.toArray (ndC x))[j]? = some u
  rw [List.getElem?_toArray]; exact hu

/-- What is there behind the copying of a node's blocks. -/
structure After (w w2 : World) (x : Nd) (s0 s : RS) : Prop where
  y0 : w2.cell? ⟨w.heap.size, 0, none⟩ = some (.string x.path)
  y1 : w2.cell? ⟨w.heap.size, 1, none⟩ = some (.bool x.dir)
  y2 : w2.cell? ⟨w.heap.size, 2, none⟩ = some (.int .i64 x.quota)
  y3 : w2.cell? ⟨w.heap.size, 3, none⟩ = some (.slice s0.a s0.n s0.c)
  y4 : w2.cell? ⟨w.heap.size, 4, none⟩ = some (.int .i64 x.wr)
  yf : ∀ j, w2.frozen? ⟨w.heap.size, j, none⟩ = false
  z0 : w2.cell? ⟨w.heap.size + 1, 0, none⟩ = some (.string ⟨#[]⟩)
  z1 : w2.cell? ⟨w.heap.size + 1, 1, none⟩ = some (.bool false)
  z2 : w2.cell? ⟨w.heap.size + 1, 2, none⟩ = some (.int .i64 0)
  z3 : w2.cell? ⟨w.heap.size + 1, 3, none⟩ = some (.slice none 0 0)
  z4 : w2.cell? ⟨w.heap.size + 1, 4, none⟩ = some (.int .i64 0)
  zf : ∀ j, w2.frozen? ⟨w.heap.size + 1, j, none⟩ = false
  big : w.heap.size + 2 ≤ w2.heap.size
  bel : Below w.heap.size w w2
  free : Free (w.heap.size + 2) w2 (x, s)

theorem after_of {w w2 : World} {x : Nd} {s0 s : RS} {t1 t2 : TypeId} (hb : Below ((w.alloc (.cells #[.string x.path, .bool x.dir, .int .i64 x.quota, .slice s0.a s0.n s0.c, .int .i64 x.wr] t1)).alloc (.cells #[.string ⟨#[]⟩, .bool false, .int .i64 0, .slice none 0 0, .int .i64 0] t2)).heap.size ((w.alloc (.cells #[.string x.path, .bool x.dir, .int .i64 x.quota, .slice s0.a s0.n s0.c, .int .i64 x.wr] t1)).alloc (.cells #[.string ⟨#[]⟩, .bool false, .int .i64 0, .slice none 0 0, .int .i64 0] t2)) w2)
    (hF : Free (w.heap.size + 2) w2 (x, s)) : After w w2 x s0 s := by
  obtain ⟨q1, q2, q3, q4, q5, q6⟩ := two_boxes hb
  exact ⟨q1 0 _ rfl, q1 1 _ rfl, q1 2 _ rfl, q1 3 _ rfl, q1 4 _ rfl, q2, q3 0 _ rfl, q3 1 _ rfl, q3 2 _ rfl, q3 3 _ rfl, q3 4 _ rfl, q4, q6, q5, hF⟩

theorem After.done {w w2 : World} {x : Nd} {s0 s : RS} (h : After w w2 x s0 s) (v v0 v1 v2 v3 v4 : Value) :
    Free w.heap.size ((((((w2.setCell ⟨w.heap.size, 3, none⟩ v).setCell ⟨w.heap.size + 1, 0, none⟩ v0).setCell ⟨w.heap.size + 1, 1, none⟩ v1).setCell ⟨w.heap.size + 1, 2, none⟩ v2).setCell ⟨w.heap.size + 1, 3, none⟩ v3).setCell ⟨w.heap.size + 1, 4, none⟩ v4) (x, s) ∧ Below w.heap.size w ((((((w2.setCell ⟨w.heap.size, 3, none⟩ v).setCell ⟨w.heap.size + 1, 0, none⟩ v0).setCell ⟨w.heap.size + 1, 1, none⟩ v1).setCell ⟨w.heap.size + 1, 2, none⟩ v2).setCell ⟨w.heap.size + 1, 3, none⟩ v3).setCell ⟨w.heap.size + 1, 4, none⟩ v4) := by
  have hbig := h.big
  have st : Stay (fun k => k = w.heap.size ∨ k = w.heap.size + 1) w2 _ := (Stay.setCell (O := fun k => k = w.heap.size ∨ k = w.heap.size + 1) w2 ⟨w.heap.size, 3, none⟩ v (.inl rfl)).then_same (Stay.five _ (w.heap.size + 1) v0 v1 v2 v3 v4 (.inr rfl))
  refine ⟨(Stay.free h.free st (fun k hk e => ?_)).mono (by omega), h.bel.trans (st.below (by omega) (fun k hk => by omega))⟩
  have := h.free.blk_ge k hk
  omega

/-- A list of nodes of the call's own is told. -/
structure ListR (base : Nat) (xs : NS) (n : Nat) (e : Ending) (w' : World) : Prop where
  ex : ∃ a c, e = .returned (.slice a n c) ∧ LX base w' a n c xs

theorem filter_take {α : Type} (f : α → Bool) (l : List α) (i : Nat) (hi : i < l.length) : (l.take (i + 1)).filter f = (l.take i).filter f ++ (if f l[i] then [l[i]] else []) := by
  rw [List.take_succ_eq_append_getElem hi, List.filter_append]
  congr 1
  by_cases h : f l[i] = true <;> simp [h]

end Go.Proofs.YtigomhilcnnjdaaGreat

/- The contracts of the functions that tree.List, Remove and Move hand on, of tree.Remove. -/
namespace Go.Proofs.YtigomhilcnnjdaaGreat
open Go.RowKit

theorem find_neg {xs : NS} {p : ByteArray} (h : at? xs p = none) : findI xs p = -1 := by unfold findI; rw [h]
theorem find_pos {xs : NS} {p : ByteArray} (h : at? xs p ≠ none) : ∃ i : Nat, findI xs p = (i : Int) ∧ i < xs.length := by
  cases e : at? xs p with
  | none => exact absurd e h
  | some i => exact ⟨i, by unfold findI; rw [e], (at_some e).1⟩

end Go.Proofs.YtigomhilcnnjdaaGreat

/- The contract of tree.Remove. -/
namespace Go.Proofs.YtigomhilcnnjdaaGreat
open Go.RowKit

/-- A list of nodes of the call's own, and an error, are told. -/
structure TwoR (base : Nat) (xs : NS) (E : Int) (e : Ending) (w' : World) : Prop where
  ex : ∃ a n c, e = .returned (.tuple #[.slice a n c, .int .i64 E]) ∧ LX base w' a n c xs

theorem TwoR.no (base : Nat) (E : Int) {e : Ending} {w' : World} (h : e = .returned (.tuple #[.slice none 0 0, .int .i64 E])) : TwoR base [] E e w' := ⟨none, 0, 0, h, LX.no _ _⟩

end Go.Proofs.YtigomhilcnnjdaaGreat

/- The contract of tree.List. -/
namespace Go.Proofs.YtigomhilcnnjdaaGreat
open Go.RowKit

def strC (s : ByteArray) : List Value := [.string s]
theorem wideS : Wide strC 1 := ⟨fun _ => rfl, fun x u hu => by simp [strC] at hu; subst hu; rfl⟩
theorem strRow : ∃ i, Tryz.prog.info? 9 = some i ∧ i.zero = some (.string ⟨#[]⟩) ∧ i.size = 1 ∧ i.bytes = 16 :=
  info_parts3 (show (Tryz.prog.info? 9).map (fun i => (i.zero, i.size, i.bytes)) = some (some (.string ⟨#[]⟩), 1, 16) by kernel_rfl)

theorem src_new1 (w : World) (s : ByteArray) : Src Tryz.prog 1 37 (.slice (some ⟨w.heap.size, 0, none⟩) 1 1) 1 (rowC strC [s]) (w.alloc (.cells #[.string s] 9)) := by
  refine Src.ofSlice _ Tryz.underlying37 ⟨w.heap.size, 0, none⟩ 1 1 _ (by rw [rowC_len wideS]; simp) (fun j u hu => ?_) (rowC_oneCell wideS _)
  rw [Addr.add_lit, Nat.zero_add]
  have e := World.cell?_alloc_new w #[.string s] 9 j
  refine e.trans ?_
  rw [rowC_one] at hu
  show (List.toArray (strC s))[j]? = some u
  rw [List.getElem?_toArray]; exact hu

theorem Cel.strs {O : Nat → Prop} {w : World} {a : Option Addr} {n c : Nat} {ss : List ByteArray} {g : Option Nat} (h : Cel O w 1 (.slice a n c) n (rowC strC ss) g) (hn : ss.length = n) (hs : ∀ s ∈ ss, s.size ≤ maxLen) : ∃ b, Strs w a b 0 ss := by
  obtain ⟨h1, h2, _⟩ := h.cap2
  by_cases h0 : n = 0
  · exact ⟨0, fun hp => by omega, fun j hj => by omega, hs, by omega⟩
  · obtain ⟨b, rfl, rfl⟩ := h.at2 (by omega)
    refine ⟨b, fun _ => rfl, fun j hj => ?_, hs, by omega⟩
    obtain ⟨b', e1, e2, e3⟩ := h.elem wideS hj hn
    cases e1
    have := e3 0 _ rfl
    rw [Nat.mul_one, Nat.add_zero] at this
    rw [Nat.zero_add]; exact this

/-- Names and an error are told. -/
structure NamesR (ss : List ByteArray) (E : Int) (e : Ending) (w' : World) : Prop where
  ex : ∃ a b n c, e = .returned (.tuple #[.slice a n c, .int .i64 E]) ∧ ss.length = n ∧ Strs w' a b 0 ss

theorem NamesR.no (E : Int) {e : Ending} {w' : World} (h : e = .returned (.tuple #[.slice none 0 0, .int .i64 E])) : NamesR [] E e w' :=
  ⟨none, 0, 0, 0, h, rfl, fun hp => by simp at hp, fun j hj => by simp at hj, by simp, by simp⟩

theorem nameN_small (p : ByteArray) : (nameN p).size ≤ maxLen := by
  unfold nameN
  obtain ⟨⟨d, n, E⟩, h⟩ : ∃ x, parentX p = x := ⟨_, rfl⟩
  rw [h]
  by_cases hE : E = 0
  · subst hE
    have := (parent_ok h).2.2.2.2.2.2
    show n.size ≤ maxLen
    unfold maxLen; omega
  · have : n = ⟨#[]⟩ := by
      unfold parentX at h
      split at h
      · split at h
        · cases h; rfl
        · cases h; exact absurd rfl hE
      · cases h; rfl
    rw [this]; exact Nat.zero_le _

end Go.Proofs.YtigomhilcnnjdaaGreat

/- A node of a list that lies in memory: where it is. -/
namespace Go.Proofs.YtigomhilcnnjdaaGreat
open Go.RowKit

theorem NL.dir {w : World} {a : Option Addr} {n : Nat} {xs : NS} (h : NL w a n xs) {b off : Nat} (ha : a = some ⟨b, off, none⟩) {i : Nat} (hi : i < xs.length) : w.cell? ⟨b, off + i * 5 + 1, none⟩ = some (.bool xs[i].dir) := by
  obtain ⟨b', off', ps, k1, k2, k3⟩ := h.ex
  have hip : i < ps.length := by rw [← List.length_map (f := (·.1)), k1]; exact hi
  have e := k3.addr (by omega)
  rw [ha] at e
  cases e
  have e1 := (k3.at hip).2.1
  rw [e1]
  subst k1
  simp

theorem NL.addr {w : World} {a : Option Addr} {n : Nat} {xs : NS} (h : NL w a n xs) (hp : 0 < n) : ∃ b off, a = some ⟨b, off, none⟩ := by
  obtain ⟨b, off, ps, k1, k2, k3⟩ := h.ex
  exact ⟨b, off, k3.addr (by rw [← List.length_map (f := (·.1)), k1, k2]; exact hp)⟩

end Go.Proofs.YtigomhilcnnjdaaGreat

/- The contracts of tabulariumref07.Fits, path, Find. -/
namespace Go.Proofs.YtigomhilcnnjdaaGreat
open Go.RowKit

set_option maxRecDepth 100000 in
set_option maxHeartbeats 4000000 in
theorem refFits_val (x : NR) (v : Bool) (w : World) (hx : NdOk w x) (hv : fitsB x.1 = v) :
    Calls Tryz.prog 83 #[ndV x] w fun e w' => e = .returned (.bool v) ∧ Below w.heap.size w w' := by
  have HX : Hid (NdOk w x) := hx
  have hlen := hx.bs.len
  have hs := hx.small
  obtain ⟨⟨p, d, q, bs, wr⟩, ⟨a, n, c⟩⟩ := x
  have hn : bs.length = n := hlen
  have HN : Hid (bs.length = n) := hn
  have HS : Hid (p.size ≤ maxLen) := hs
  unfold fitsB dirB fileB headB at hv
  simp only [hn] at hv
  unfold ndV
  have HSX : Hid (splitX p = (splitN p, splitE p)) := splitX_pair p
  obtain ⟨m, hm⟩ : ∃ m, (splitN p).length = m := ⟨_, rfl⟩
  have HM : Hid ((splitN p).length = m) := hm
  clear hx hlen hn hs hm
  by_cases hE : splitE p = 0
  · have hpb : pathB p = true := by unfold pathB; rw [hE]; rfl
    rw [hE] at HSX
    rw [hpb, Bool.true_and] at hv
    clear hpb hE
    generalize splitN p = N at *
    cases d with
    | true =>
      simp only [if_true] at hv
      by_cases hc0 : n = 0
      · have f0 : ((n : Int) == 0) = true := by simp; omega
        by_cases hc1 : wr = -1
        · have f1 : (wr == -1) = true := by simpa using hc1
          by_cases hc2 : -1 ≤ q
          · have f2 : decide (-1 ≤ q) = true := decide_eq_true hc2
            by_cases hc3 : q ≤ 9007199254740991
            · have f3 : decide (q ≤ 9007199254740991) = true := decide_eq_true hc3
              have hv0 : v = true := by rw [← hv]; simp [hc0, hc1, hc2, hc3]
              subst hv0
              clear hv
              clear hc0 hc1 hc2 hc3
              go_enter Tryz.func83, Tryz.ntmps83
              go_wp2_with fail
              refine (refSplit_val p N 0 m _ HS.out HSX.out HM.out).mono ?_
              rintro e w1 ⟨a1, b1, cap1, rfl, hS1, c1⟩
              have B1 : Hid (Below w.heap.size w w1) := bel_tr (bel_al _ _) c1
              have y0 := bel_cell c1 (World.cell?_alloc_new w _ _ 0)
              have y1 := bel_cell c1 (World.cell?_alloc_new w _ _ 1)
              have y2 := bel_cell c1 (World.cell?_alloc_new w _ _ 2)
              have y3 := bel_cell c1 (World.cell?_alloc_new w _ _ 3)
              have y4 := bel_cell c1 (World.cell?_alloc_new w _ _ 4)
              clear hS1 c1
              go_wp2
              go_ret
              exact ⟨rfl, B1.out⟩
            · have f3 : decide (q ≤ 9007199254740991) = false := decide_eq_false hc3
              have hv0 : v = false := by rw [← hv]; simp [hc3]
              subst hv0
              clear hv
              clear hc0 hc1 hc2 hc3
              go_enter Tryz.func83, Tryz.ntmps83
              go_wp2_with fail
              refine (refSplit_val p N 0 m _ HS.out HSX.out HM.out).mono ?_
              rintro e w1 ⟨a1, b1, cap1, rfl, hS1, c1⟩
              have B1 : Hid (Below w.heap.size w w1) := bel_tr (bel_al _ _) c1
              have y0 := bel_cell c1 (World.cell?_alloc_new w _ _ 0)
              have y1 := bel_cell c1 (World.cell?_alloc_new w _ _ 1)
              have y2 := bel_cell c1 (World.cell?_alloc_new w _ _ 2)
              have y3 := bel_cell c1 (World.cell?_alloc_new w _ _ 3)
              have y4 := bel_cell c1 (World.cell?_alloc_new w _ _ 4)
              clear hS1 c1
              go_wp2
              go_ret
              exact ⟨rfl, B1.out⟩
          · have f2 : decide (-1 ≤ q) = false := decide_eq_false hc2
            have hv0 : v = false := by rw [← hv]; simp [hc2]
            subst hv0
            clear hv
            clear hc0 hc1 hc2
            go_enter Tryz.func83, Tryz.ntmps83
            go_wp2_with fail
            refine (refSplit_val p N 0 m _ HS.out HSX.out HM.out).mono ?_
            rintro e w1 ⟨a1, b1, cap1, rfl, hS1, c1⟩
            have B1 : Hid (Below w.heap.size w w1) := bel_tr (bel_al _ _) c1
            have y0 := bel_cell c1 (World.cell?_alloc_new w _ _ 0)
            have y1 := bel_cell c1 (World.cell?_alloc_new w _ _ 1)
            have y2 := bel_cell c1 (World.cell?_alloc_new w _ _ 2)
            have y3 := bel_cell c1 (World.cell?_alloc_new w _ _ 3)
            have y4 := bel_cell c1 (World.cell?_alloc_new w _ _ 4)
            clear hS1 c1
            go_wp2
            go_ret
            exact ⟨rfl, B1.out⟩
        · have f1 : (wr == -1) = false := by simpa using hc1
          have hv0 : v = false := by rw [← hv]; simp [hc1]
          subst hv0
          clear hv
          clear hc0 hc1
          go_enter Tryz.func83, Tryz.ntmps83
          go_wp2_with fail
          refine (refSplit_val p N 0 m _ HS.out HSX.out HM.out).mono ?_
          rintro e w1 ⟨a1, b1, cap1, rfl, hS1, c1⟩
          have B1 : Hid (Below w.heap.size w w1) := bel_tr (bel_al _ _) c1
          have y0 := bel_cell c1 (World.cell?_alloc_new w _ _ 0)
          have y1 := bel_cell c1 (World.cell?_alloc_new w _ _ 1)
          have y2 := bel_cell c1 (World.cell?_alloc_new w _ _ 2)
          have y3 := bel_cell c1 (World.cell?_alloc_new w _ _ 3)
          have y4 := bel_cell c1 (World.cell?_alloc_new w _ _ 4)
          clear hS1 c1
          go_wp2
          go_ret
          exact ⟨rfl, B1.out⟩
      · have f0 : ((n : Int) == 0) = false := by simp; omega
        have hv0 : v = false := by rw [← hv]; simp [hc0]
        subst hv0
        clear hv
        clear hc0
        go_enter Tryz.func83, Tryz.ntmps83
        go_wp2_with fail
        refine (refSplit_val p N 0 m _ HS.out HSX.out HM.out).mono ?_
        rintro e w1 ⟨a1, b1, cap1, rfl, hS1, c1⟩
        have B1 : Hid (Below w.heap.size w w1) := bel_tr (bel_al _ _) c1
        have y0 := bel_cell c1 (World.cell?_alloc_new w _ _ 0)
        have y1 := bel_cell c1 (World.cell?_alloc_new w _ _ 1)
        have y2 := bel_cell c1 (World.cell?_alloc_new w _ _ 2)
        have y3 := bel_cell c1 (World.cell?_alloc_new w _ _ 3)
        have y4 := bel_cell c1 (World.cell?_alloc_new w _ _ 4)
        clear hS1 c1
        go_wp2
        go_ret
        exact ⟨rfl, B1.out⟩
    | false =>
      simp only [Bool.false_eq_true, if_false] at hv
      have e47 := root_eq p
      by_cases hb0 : p = rootP
      · rw [decide_eq_true hb0] at e47
        have hv0 : v = false := by rw [← hv, decide_eq_true hb0]; simp
        subst hv0
        clear hv hb0
        go_enter Tryz.func83, Tryz.ntmps83
        go_wp2_with fail
        refine (refSplit_val p N 0 m _ HS.out HSX.out HM.out).mono ?_
        rintro e w1 ⟨a1, b1, cap1, rfl, hS1, c1⟩
        have B1 : Hid (Below w.heap.size w w1) := bel_tr (bel_al _ _) c1
        have y0 := bel_cell c1 (World.cell?_alloc_new w _ _ 0)
        have y1 := bel_cell c1 (World.cell?_alloc_new w _ _ 1)
        have y2 := bel_cell c1 (World.cell?_alloc_new w _ _ 2)
        have y3 := bel_cell c1 (World.cell?_alloc_new w _ _ 3)
        have y4 := bel_cell c1 (World.cell?_alloc_new w _ _ 4)
        clear hS1 c1
        go_wp2
        go_ret
        exact ⟨rfl, B1.out⟩
      · rw [decide_eq_false hb0] at e47
        by_cases hb1 : q ≠ -1
        · have f1 : (q != -1) = true := by simpa using hb1
          have hv0 : v = false := by rw [← hv, decide_eq_false (show ¬ q = -1 from hb1)]; simp
          subst hv0
          clear hv hb0 hb1
          go_enter Tryz.func83, Tryz.ntmps83
          go_wp2_with fail
          refine (refSplit_val p N 0 m _ HS.out HSX.out HM.out).mono ?_
          rintro e w1 ⟨a1, b1, cap1, rfl, hS1, c1⟩
          have B1 : Hid (Below w.heap.size w w1) := bel_tr (bel_al _ _) c1
          have y0 := bel_cell c1 (World.cell?_alloc_new w _ _ 0)
          have y1 := bel_cell c1 (World.cell?_alloc_new w _ _ 1)
          have y2 := bel_cell c1 (World.cell?_alloc_new w _ _ 2)
          have y3 := bel_cell c1 (World.cell?_alloc_new w _ _ 3)
          have y4 := bel_cell c1 (World.cell?_alloc_new w _ _ 4)
          clear hS1 c1
          go_wp2
          go_ret
          exact ⟨rfl, B1.out⟩
        · have f1 : (q != -1) = false := by simpa using hb1
          by_cases hb2 : wr < -1
          · have f2 : decide (wr < -1) = true := decide_eq_true hb2
            have hv0 : v = false := by rw [← hv, decide_eq_false (show ¬ -1 ≤ wr by omega)]; simp
            subst hv0
            clear hv hb0 hb1 hb2
            go_enter Tryz.func83, Tryz.ntmps83
            go_wp2_with fail
            refine (refSplit_val p N 0 m _ HS.out HSX.out HM.out).mono ?_
            rintro e w1 ⟨a1, b1, cap1, rfl, hS1, c1⟩
            have B1 : Hid (Below w.heap.size w w1) := bel_tr (bel_al _ _) c1
            have y0 := bel_cell c1 (World.cell?_alloc_new w _ _ 0)
            have y1 := bel_cell c1 (World.cell?_alloc_new w _ _ 1)
            have y2 := bel_cell c1 (World.cell?_alloc_new w _ _ 2)
            have y3 := bel_cell c1 (World.cell?_alloc_new w _ _ 3)
            have y4 := bel_cell c1 (World.cell?_alloc_new w _ _ 4)
            clear hS1 c1
            go_wp2
            go_ret
            exact ⟨rfl, B1.out⟩
          · have f2 : decide (wr < -1) = false := decide_eq_false hb2
            by_cases hb3 : 4 ≤ wr
            · have f3 : decide (4 ≤ wr) = true := decide_eq_true hb3
              have hv0 : v = false := by rw [← hv, decide_eq_false (show ¬ wr ≤ 3 by omega)]; simp
              subst hv0
              clear hv hb0 hb1 hb2 hb3
              go_enter Tryz.func83, Tryz.ntmps83
              go_wp2_with fail
              refine (refSplit_val p N 0 m _ HS.out HSX.out HM.out).mono ?_
              rintro e w1 ⟨a1, b1, cap1, rfl, hS1, c1⟩
              have B1 : Hid (Below w.heap.size w w1) := bel_tr (bel_al _ _) c1
              have y0 := bel_cell c1 (World.cell?_alloc_new w _ _ 0)
              have y1 := bel_cell c1 (World.cell?_alloc_new w _ _ 1)
              have y2 := bel_cell c1 (World.cell?_alloc_new w _ _ 2)
              have y3 := bel_cell c1 (World.cell?_alloc_new w _ _ 3)
              have y4 := bel_cell c1 (World.cell?_alloc_new w _ _ 4)
              clear hS1 c1
              go_wp2
              go_ret
              exact ⟨rfl, B1.out⟩
            · have f3 : decide (4 ≤ wr) = false := decide_eq_false hb3
              by_cases hb4 : 8 < n
              · have f4 : decide ((8 : Int) < (n : Int)) = true := decide_eq_true (by omega)
                have hv0 : v = false := by rw [← hv, decide_eq_false (show ¬ n ≤ 8 by omega)]; simp
                subst hv0
                clear hv hb0 hb1 hb2 hb3 hb4
                go_enter Tryz.func83, Tryz.ntmps83
                go_wp2_with fail
                refine (refSplit_val p N 0 m _ HS.out HSX.out HM.out).mono ?_
                rintro e w1 ⟨a1, b1, cap1, rfl, hS1, c1⟩
                have B1 : Hid (Below w.heap.size w w1) := bel_tr (bel_al _ _) c1
                have y0 := bel_cell c1 (World.cell?_alloc_new w _ _ 0)
                have y1 := bel_cell c1 (World.cell?_alloc_new w _ _ 1)
                have y2 := bel_cell c1 (World.cell?_alloc_new w _ _ 2)
                have y3 := bel_cell c1 (World.cell?_alloc_new w _ _ 3)
                have y4 := bel_cell c1 (World.cell?_alloc_new w _ _ 4)
                clear hS1 c1
                go_wp2
                go_ret
                exact ⟨rfl, B1.out⟩
              · have f4 : decide ((8 : Int) < (n : Int)) = false := decide_eq_false (by omega)
                have hvb : bs.all blkB = v := by
                  rw [← hv, decide_eq_false hb0, decide_eq_true (show q = -1 by simpa using hb1), decide_eq_true (show -1 ≤ wr by omega), decide_eq_true (show wr ≤ 3 by omega), decide_eq_true (show n ≤ 8 by omega)]
                  simp
                have HV : Hid _ := hvb
                have hn8 : n ≤ 8 := by omega
                clear hv hvb hb0 hb1 hb2 hb3 hb4
                go_enter Tryz.func83, Tryz.ntmps83
                go_wp2_with fail
                refine (refSplit_val p N 0 m _ HS.out HSX.out HM.out).mono ?_
                rintro e w1 ⟨a1, b1, cap1, rfl, hS1, c1⟩
                have B1 : Hid (Below w.heap.size w w1) := bel_tr (bel_al _ _) c1
                have y0 := bel_cell c1 (World.cell?_alloc_new w _ _ 0)
                have y1 := bel_cell c1 (World.cell?_alloc_new w _ _ 1)
                have y2 := bel_cell c1 (World.cell?_alloc_new w _ _ 2)
                have y3 := bel_cell c1 (World.cell?_alloc_new w _ _ 3)
                have y4 := bel_cell c1 (World.cell?_alloc_new w _ _ 4)
                clear hS1 c1
                go_wp2
                have HY3 : Hid _ := y3
                clear y0 y1 y2 y3 y4
                go_loopw [5, 6] (fun v5 _ wr => ∃ i : Nat, i ≤ n ∧ v5 = .int .i64 i ∧ Below w1.heap.size w1 wr ∧ (bs.take i).all blkB = true) (fun v5 _ _ => n - (intOf v5).toNat)
                case atStart => exact ⟨0, by omega, rfl, Below.refl _ _, by simp⟩
                case round =>
                  obtain ⟨i, hi, rfl, hb, hall⟩ := hrel
                  have HB : Hid (Below w1.heap.size w1 wr) := hb
                  have y3 := bel_cell hb HY3.out
                  have y3a := cell_al y3
                  have HA : Hid _ := hall
                  by_cases hlt : i < n
                  · obtain ⟨b, off, ha, hcell⟩ := (HX.out.below (bel_tr B1.out hb)).bs.cells (by show 0 < n; omega)
                    simp only at ha
                    subst ha
                    have hib : i < bs.length := by rw [HN.out]; exact hlt
                    have hc := hcell i hib
                    have HE : Hid (blkB bs[i] = true → (bs.take (i + 1)).all blkB = true) := fun h => all_take blkB bs i hib hall h
                    have HF : Hid (blkB bs[i] = false → bs.all blkB = false) := fun h => List.all_eq_false.2 ⟨bs[i], List.getElem_mem hib, by rw [h]; simp⟩
                    obtain ⟨bi, hbi⟩ : ∃ bi, bs[i] = bi := ⟨_, rfl⟩
                    simp only [hbi] at hc HE HF
                    obtain ⟨f1, f2, f3⟩ := bi
                    have c0 : wr.cell? ⟨b, off + i * 3, none⟩ = some (.int .i64 f1) := hc 0 _ rfl
                    have c1 : wr.cell? ⟨b, off + i * 3 + 1, none⟩ = some (.int .i64 f2) := hc 1 _ rfl
                    have c2 : wr.cell? ⟨b, off + i * 3 + 2, none⟩ = some (.int .i64 f3) := hc 2 _ rfl
                    have HL : Hid (blkB ⟨f1, f2, f3⟩ = ((decide (1 ≤ f1) && decide (f1 ≤ 9007199254740991)) && (decide (1 ≤ f2) && decide (f2 ≤ 9007199254740991)) && (decide (0 ≤ f3) && decide (f3 ≤ 64)))) := rfl
                    clear hb hall hcell hc hbi hib
                    by_cases ht0 : f1 < 1
                    · have g0 : decide (f1 < 1) = true := decide_eq_true ht0
                      have hv0 : v = false := by rw [← HV.out]; exact HF.out (by rw [HL.out, decide_eq_false (show ¬ 1 ≤ f1 by omega)]; simp)
                      subst hv0
                      clear ht0
                      go_wp2
                      go_ret
                      exact ⟨rfl, bel_tr B1.out (bel_tr HB.out (bel_al _ _))⟩
                    · have g0 : decide (f1 < 1) = false := decide_eq_false ht0
                      by_cases ht1 : 9007199254740991 < f1
                      · have g1 : decide (9007199254740991 < f1) = true := decide_eq_true ht1
                        have hv0 : v = false := by rw [← HV.out]; exact HF.out (by rw [HL.out, decide_eq_false (show ¬ f1 ≤ 9007199254740991 by omega)]; simp)
                        subst hv0
                        clear ht0 ht1
                        go_wp2
                        go_ret
                        exact ⟨rfl, bel_tr B1.out (bel_tr HB.out (bel_al _ _))⟩
                      · have g1 : decide (9007199254740991 < f1) = false := decide_eq_false ht1
                        by_cases ht2 : f2 < 1
                        · have g2 : decide (f2 < 1) = true := decide_eq_true ht2
                          have hv0 : v = false := by rw [← HV.out]; exact HF.out (by rw [HL.out, decide_eq_false (show ¬ 1 ≤ f2 by omega)]; simp)
                          subst hv0
                          clear ht0 ht1 ht2
                          go_wp2
                          go_ret
                          exact ⟨rfl, bel_tr B1.out (bel_tr HB.out (bel_al _ _))⟩
                        · have g2 : decide (f2 < 1) = false := decide_eq_false ht2
                          by_cases ht3 : 9007199254740991 < f2
                          · have g3 : decide (9007199254740991 < f2) = true := decide_eq_true ht3
                            have hv0 : v = false := by rw [← HV.out]; exact HF.out (by rw [HL.out, decide_eq_false (show ¬ f2 ≤ 9007199254740991 by omega)]; simp)
                            subst hv0
                            clear ht0 ht1 ht2 ht3
                            go_wp2
                            go_ret
                            exact ⟨rfl, bel_tr B1.out (bel_tr HB.out (bel_al _ _))⟩
                          · have g3 : decide (9007199254740991 < f2) = false := decide_eq_false ht3
                            by_cases ht4 : f3 < 0
                            · have g4 : decide (f3 < 0) = true := decide_eq_true ht4
                              have hv0 : v = false := by rw [← HV.out]; exact HF.out (by rw [HL.out, decide_eq_false (show ¬ 0 ≤ f3 by omega)]; simp)
                              subst hv0
                              clear ht0 ht1 ht2 ht3 ht4
                              go_wp2
                              go_ret
                              exact ⟨rfl, bel_tr B1.out (bel_tr HB.out (bel_al _ _))⟩
                            · have g4 : decide (f3 < 0) = false := decide_eq_false ht4
                              by_cases ht5 : 64 < f3
                              · have g5 : decide (64 < f3) = true := decide_eq_true ht5
                                have hv0 : v = false := by rw [← HV.out]; exact HF.out (by rw [HL.out, decide_eq_false (show ¬ f3 ≤ 64 by omega)]; simp)
                                subst hv0
                                clear ht0 ht1 ht2 ht3 ht4 ht5
                                go_wp2
                                go_ret
                                exact ⟨rfl, bel_tr B1.out (bel_tr HB.out (bel_al _ _))⟩
                              · have g5 : decide (64 < f3) = false := decide_eq_false ht5
                                have HR : Hid ((bs.take (i + 1)).all blkB = true) := HE.out (by rw [HL.out, decide_eq_true (show 1 ≤ f1 by omega), decide_eq_true (show f1 ≤ 9007199254740991 by omega), decide_eq_true (show 1 ≤ f2 by omega), decide_eq_true (show f2 ≤ 9007199254740991 by omega), decide_eq_true (show 0 ≤ f3 by omega), decide_eq_true (show f3 ≤ 64 by omega)]; rfl)
                                clear ht0 ht1 ht2 ht3 ht4 ht5
                                go_wp2
                                go_roundw
                                case rel => exact ⟨i + 1, by omega, by go_num, bel_tr HB.out (bel_al _ _), HR.out⟩
                                case measure => simp [intOf]; omega
                  · obtain rfl : i = n := by omega
                    have hgd : decide ((i : Int) < (i : Int)) = false := decide_eq_false (by omega)
                    have hA := HA.out
                    rw [List.take_of_length_le (by rw [HN.out]; omega), HV.out] at hA
                    subst hA
                    clear hb hall hlt
                    go_wp2
                    go_ret
                    exact ⟨rfl, bel_tr B1.out HB.out⟩
  · have hpb : pathB p = false := by unfold pathB; exact decide_eq_false hE
    have hv0 : v = false := by rw [← hv, hpb]; rfl
    have hEb : (splitE p != 0) = true := by simpa using hE
    subst hv0
    clear hv hpb hE
    generalize splitN p = N at *
    generalize splitE p = E at *
    go_enter Tryz.func83, Tryz.ntmps83
    go_wp2_with fail
    refine (refSplit_val p N E m _ HS.out HSX.out HM.out).mono ?_
    rintro e w1 ⟨a1, b1, cap1, rfl, hS1, c1⟩
    have B1 : Hid (Below w.heap.size w w1) := bel_tr (bel_al _ _) c1
    clear hS1 c1
    go_wp2
    go_ret
    exact ⟨rfl, B1.out⟩

set_option maxRecDepth 100000 in
set_option maxHeartbeats 1000000 in
theorem refFind_val {a : Option Addr} {n c : Nat} {xs : NS} {w : World} (h : NL w a n xs) (p : ByteArray) (I : Int) (hI : findI xs p = I) :
    Calls Tryz.prog 85 #[.slice a n c, .string p] w fun e w' => e = .returned (.int .i64 I) ∧ Below w.heap.size w w' := by
  have hlid := h.lid
  unfold maxLen at hlid
  obtain ⟨b, off, ps, k1, k2, k3⟩ := h.ex
  have HK : Hid (Nds w a b off ps) := k3
  have HP : Hid (ps.length = n) := by show ps.length = n; rw [← k2, ← k1, List.length_map]
  have HMP : Hid (ps.map (·.1) = xs) := k1
  have HI : Hid _ := hI
  clear h k1 k2 k3 hI
  go_enter Tryz.func85, Tryz.ntmps85
  go_wp2
  go_loopw [5] (fun v5 wr => ∃ i : Nat, i ≤ n ∧ v5 = .int .i64 i ∧ Below w.heap.size w wr ∧ ∀ j (hj : j < ps.length), j < i → ps[j].1.path ≠ p) (fun v5 _ => n - (intOf v5).toNat)
  case atStart => exact ⟨0, by omega, rfl, Below.refl _ _, fun j hj hj0 => by omega⟩
  case round =>
    obtain ⟨i, hi, rfl, hb, hall⟩ := hrel
    have HB : Hid _ := hb
    have HA : Hid (∀ j (hj : j < ps.length), j < i → ps[j].1.path ≠ p) := hall
    by_cases hlt : i < n
    · have hi2 : i < ps.length := by rw [HP.out]; exact hlt
      obtain ⟨e0, _⟩ := (HK.out.below hb).at hi2
      obtain rfl := (HK.out.below hb).addr (by omega)
      have HX : Hid (decide (ps[i].1.path = p) = true → findI xs p = (i : Int)) := fun hp => by
        have : at? (ps.map (·.1)) p = some i := at_is (by simpa using hi2) (by simpa using hp) (fun j hj => by
          have := hall j (by omega) hj
          simpa using this)
        rw [HMP.out] at this
        unfold findI; rw [this]
      have HY : Hid (decide (ps[i].1.path = p) = false → ∀ j (hj : j < ps.length), j < i + 1 → ps[j].1.path ≠ p) := fun hp j hj hji => by
        rcases Nat.lt_or_ge j i with h | h
        · exact hall j hj h
        · obtain rfl : j = i := by omega
          simpa using hp
      have se := same_eq ps[i].1.path p
      clear hb hall
      generalize ps[i].1.path = q at *
      cases hv : decide (q = p) with
      | true =>
        rw [hv] at se
        have hII : I = (i : Int) := by rw [← HI.out]; exact HX.out hv
        subst hII
        clear hv
        go_wp2
        go_ret
        exact ⟨rfl, HB.out⟩
      | false =>
        rw [hv] at se
        have HV : Hid _ := hv
        clear hv
        go_wp2
        go_roundw
        case rel => exact ⟨i + 1, by omega, by go_num, HB.out, HY.out HV.out⟩
        case measure => simp [intOf]; omega
    · obtain rfl : i = n := by omega
      have hgd : decide ((i : Int) < (i : Int)) = false := decide_eq_false (by omega)
      have hII : I = -1 := by
        have : at? (ps.map (·.1)) p = none := at_no (fun x hx => by
          obtain ⟨y, hy, rfl⟩ := List.mem_map.1 hx
          obtain ⟨j, hj, rfl⟩ := List.getElem_of_mem hy
          exact hall j hj (by have := HP.out; omega))
        rw [HMP.out] at this
        rw [← HI.out]; unfold findI; rw [this]
      subst hII
      clear hb hall hlt
      go_wp2
      go_ret
      exact ⟨rfl, HB.out⟩

end Go.Proofs.YtigomhilcnnjdaaGreat
