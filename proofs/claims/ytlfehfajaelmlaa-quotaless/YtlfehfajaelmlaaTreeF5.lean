/- The contracts of slices.Clone at blocks, tree.copied, tabulariumref07.Copy. -/
import Derived.Test.YtlfehfajaelmlaaTreeF4
namespace Go.Proofs.Ytlfehfajaelmlaa
open Go.RowKit

theorem info_parts3 {i : Option TypeInfo} {z : Value} {s b : Nat} (h : i.map (fun i => (i.zero, i.size, i.bytes)) = some (some z, s, b)) : ∃ j, i = some j ∧ j.zero = some z ∧ j.size = s ∧ j.bytes = b := by
  cases i with
  | none => cases h
  | some j => simp at h; exact ⟨j, rfl, h.1, h.2.1, h.2.2⟩
theorem blkRow : ∃ i, Try.prog.info? 68 = some i ∧ i.zero = some (.agg #[.int .i64 0, .int .i64 0, .int .i64 0]) ∧ i.size = 3 ∧ i.bytes = 24 :=
  info_parts3 (show (Try.prog.info? 68).map (fun i => (i.zero, i.size, i.bytes)) = some (some (.agg #[.int .i64 0, .int .i64 0, .int .i64 0]), 3, 24) by kernel_rfl)
theorem ndRow : ∃ i, Try.prog.info? 35 = some i ∧ i.zero = some (.agg #[.string ⟨#[]⟩, .bool false, .int .i64 0, .slice none 0 0, .int .i64 0]) ∧ i.size = 5 ∧ i.bytes = 64 :=
  info_parts3 (show (Try.prog.info? 35).map (fun i => (i.zero, i.size, i.bytes)) = some (some (.agg #[.string ⟨#[]⟩, .bool false, .int .i64 0, .slice none 0 0, .int .i64 0]), 5, 64) by kernel_rfl)

/-- Blocks as what is appended. -/
theorem Blks.src {w : World} {s : RS} {bs : List Blk} (h : Blks w s bs) (hc : s.a = none → s.n = 0) : Src Try.prog 3 33 (.slice s.a s.n s.c) s.n (rowC blkC bs) w := by
  obtain ⟨a, n, c⟩ := s
  have hl : bs.length = n := h.len
  by_cases h0 : n = 0
  · subst h0
    have e : bs = [] := List.length_eq_zero_iff.1 hl
    subst e
    cases a with
    | none => exact Src.ofNil w Try.underlying33 _
    | some x => exact Src.ofSlice w Try.underlying33 x 0 _ [] (by simp) (fun j u hu => by simp at hu) (fun u hu => by cases hu)
  · obtain ⟨b, off, ha, hcell⟩ := h.cells (by show 0 < n; omega)
    simp only at ha
    subst ha
    refine Src.ofSlice w Try.underlying33 ⟨b, off, none⟩ n _ _ (by rw [rowC_len wideB, hl]) (fun j u hu => ?_) (rowC_oneCell wideB _)
    rw [Addr.add_lit]
    have hj : j < (rowC blkC bs).length := (List.getElem?_eq_some_iff.1 hu).1
    rw [rowC_len wideB] at hj
    have e := rowC_at wideB bs (j / 3) (by omega) (j % 3) (by omega)
    have e2 : j / 3 * 3 + j % 3 = j := by omega
    rw [e2, hu] at e
    have := hcell (j / 3) (by omega) (j % 3) u e.symm
    rw [show off + j / 3 * 3 + j % 3 = off + j by omega] at this
    exact this

/-- What was appended, as blocks of the call's own. -/
theorem free_of_cel {base : Nat} {w : World} {a : Option Addr} {n c : Nat} {bs : List Blk} {g : Option Nat} (h : Cel (fun k => base ≤ k) w 3 (.slice a n c) n (rowC blkC bs) g) (hl : bs.length = n) {x : Nd} (hx : x.bs = bs) (hs : x.path.size ≤ maxLen) : Free base w (x, ⟨a, n, c⟩) := by
  obtain ⟨hc1, hc2, _⟩ := h.cap2
  subst hx
  refine ⟨⟨hs, hl, by show n ≤ maxLen; omega, fun ha => ?_, fun hp => ?_⟩, fun hp => ?_⟩
  · cases h with
    | nil h1 h2 h3 => cases h1; rfl
    | row g cap h1 hl h2 h3 h4 h5 h6 h7 => cases h1; cases ha
  · obtain ⟨b, h1, h2⟩ := h.at2 hp
    subst h2
    refine ⟨b, 0, h1, fun j hj i v hv => ?_⟩
    obtain ⟨b', e1, e2, e3⟩ := h.elem wideB hj hl
    cases e2
    rw [Nat.zero_add]; exact e3 i v hv
  · obtain ⟨b, h1, h2⟩ := h.at2 hp
    subst h2
    refine ⟨b, h1, h.lt.2, fun j hj => ?_⟩
    have hp' : n * 3 ≤ c * 3 := Nat.mul_le_mul_right _ hc1
    have hj' : j < n * 3 := hj
    exact h.live j (by omega)

theorem grow_base {base : Nat} {w w' : World} (hB : base ≤ w.heap.size) {size : Nat} {sl : Value} {n : Nat} {cs : List Value} {g : Option Nat} {O : Nat → Prop} (hO : ∀ k, O k → base ≤ k) (h : Cel (Grow O w w') w' size sl n cs g) : Cel (fun k => base ≤ k) w' size sl n cs g :=
  h.stay (Nat.le_refl _) (fun _ _ => rfl) (fun k hk => hk.elim (hO k) (fun e => Nat.le_trans hB e.1))

theorem run_store_str (w : World) (a : Addr) (x : ByteArray) (m : Mode) : (store a (.string x) m).run Try.prog w = stored Try.prog w a (.string x) m := run_store Try.prog w a _ m rfl
theorem froz_al {w : World} {a : Addr} {v : Value} (h : w.cell? a = some v) (h2 : w.frozen? a = false) (o : Obj) : (w.alloc o).frozen? a = false :=
  (World.frozen?_of_block (((Below.refl w.heap.size w).alloc (Nat.le_refl _) o).block a.block (World.block_lt_of_cell? _ _ h))).trans h2

structure CloneR (base n : Nat) (bs : List Blk) (e : Ending) (w' : World) : Prop where
  ex : ∃ a c g, e = .returned (.slice a n c) ∧ Cel (fun k => base ≤ k) w' 3 (.slice a n c) n (rowC blkC bs) g
/-- A copy of a node. -/
structure CopyR (base : Nat) (x : Nd) (e : Ending) (w' : World) : Prop where
  ex : ∃ s, e = .returned (ndV (x, s)) ∧ Free base w' (x, s)

theorem nilBlks (w : World) (a : Option Addr) (n c : Nat) : (binOp .eql 33 (.slice a n c) (.slice none 0 0)).run Try.prog w = .ok (.bool a.isNone) w := Lib.run_eql_slice_nil w 33 68 a n c 0 0 Try.underlying33

set_option maxRecDepth 100000 in
set_option maxHeartbeats 1000000 in
theorem clone_val (s : RS) (bs : List Blk) (w : World) (h : Blks w s bs) (hz : s.n * 24 ≤ 140737488355328) :
    Calls Try.prog 50 #[.slice s.a s.n s.c] w fun e w' => CloneR w.heap.size s.n bs e w' ∧ Below w.heap.size w w' := by
  obtain ⟨ti, hi1, hi2, hi3, hi4⟩ := blkRow
  obtain ⟨a, n, c⟩ := s
  have HL : Hid (bs.length = n) := h.len
  have hnb := nilBlks
  cases a with
  | none =>
    have hn0 : n = 0 := by
      rcases Nat.eq_zero_or_pos n with h0 | h0
      · exact h0
      · obtain ⟨b, off, ha, _⟩ := h.cells h0
        cases ha
    subst hn0
    have hc0 : c = 0 := h.nil rfl
    subst hc0
    have e : bs = [] := List.length_eq_zero_iff.1 HL.out
    subst e
    clear h
    go_enter Try.func50, Try.ntmps50
    go_wp2
    go_ret
    exact ⟨⟨none, 0, none, rfl, .nil rfl rfl rfl⟩, Below.refl _ _⟩
  | some ad =>
    have HS : Hid (∀ o, Src Try.prog 3 33 (.slice (some ad) n c) n (rowC blkC bs) (w.alloc o)) := fun o => (h.below (bel_al w o)).src (fun e => by cases e)
    have hl := h.lid
    have hl2 : n ≤ 5864062014805 := by have : n * 24 ≤ 140737488355328 := hz; omega
    have HC0 : Hid (∀ t, Cel (fun k => w.heap.size ≤ k) (w.alloc (.cells #[] t)) 3 (.slice (some ⟨w.heap.size, 0, none⟩) 0 0) 0 [] (some w.heap.size)) := fun t =>
      .row w.heap.size 0 rfl (by simp) (Nat.le_refl _) (by simp) (Nat.le_refl _) (Nat.zero_le _) (fun j hj => by simp at hj) (fun j hj => by omega)
    simp only at hz
    clear h hl
    go_enter Try.func50, Try.ntmps50
    go_wp2_with (at_builtin; refine wpList_append_cel _ rfl _ _ 33 33 rfl 68 ti _ 3 24 Try.underlying33 hi1 hi2 hi3 hi4 rfl (O := fun k => w.heap.size ≤ k) _ 0 [] _ rfl (HC0.out _) _ n (rowC blkC bs) rfl (HS.out _) (by unfold maxLen; omega) (by omega) ?_; intro a2 cc2 w2 g2 hC2 hst2 hf2)
    have hC3 := grow_base (base := w.heap.size) (by simp) (fun k hk => hk) hC2
    rw [Nat.zero_add, List.nil_append] at hC3
    have HX : Hid (Cel (fun k => w.heap.size ≤ k) w2 3 (.slice a2 n cc2) n (rowC blkC bs) g2) := hC3
    have HB : Hid (Below w.heap.size w w2) := (bel_al w _).trans (hst2.below (by simp) (fun k hk => by cases hk; exact Nat.le_refl _))
    clear hC2 hC3 hst2 hf2
    go_ret
    exact ⟨⟨a2, cc2, g2, rfl, HX.out⟩, HB.out⟩

/-- A block that is left alone while two others are written. -/
theorem Stay.free {base : Nat} {w w' : World} {O : Nat → Prop} {x : NR} (h : Free base w x) (hs : Stay O w w') (ho : ∀ k, x.2.blk = some k → ¬ O k) : Free base w' x :=
  h.keep fun k hk => hs.block k (h.ok.bs.lt k hk) (ho k hk)

theorem Free.blk_ge {base : Nat} {w : World} {x : NR} (h : Free base w x) : ∀ k, x.2.blk = some k → base ≤ k := by
  intro k hk
  unfold RS.blk at hk
  split at hk
  · cases hk
  · rename_i hn
    obtain ⟨b, ha, hb, _⟩ := h.own (by omega)
    rw [ha] at hk
    have e : b = k := by simpa using hk
    omega

theorem run_store_any (w : World) (a : Addr) (x : Value) (m : Mode) (h : x.oneCell' = true) : (store a x m).run Try.prog w = stored Try.prog w a x m := run_store Try.prog w a _ m h

theorem other_cell (w : World) (b i j : Nat) (v : Value) (h : i ≠ j) : (w.setCell ⟨b, i, none⟩ v).cell? ⟨b, j, none⟩ = w.cell? ⟨b, j, none⟩ :=
  World.cell?_setCell_other _ _ _ _ (by intro e; cases e; exact h rfl)
theorem other_block (w : World) (b c i j : Nat) (v : Value) (h : b ≠ c) : (w.setCell ⟨b, i, none⟩ v).cell? ⟨c, j, none⟩ = w.cell? ⟨c, j, none⟩ :=
  World.cell?_setCell_other _ _ _ _ (by intro e; cases e; exact h rfl)

/-- Five cells are written. -/
theorem five {X : World} {R : Nat} {u0 u1 u2 u3 u4 : Value} (h0 : X.cell? ⟨R, 0, none⟩ = some u0) (h1 : X.cell? ⟨R, 1, none⟩ = some u1) (h2 : X.cell? ⟨R, 2, none⟩ = some u2) (h3 : X.cell? ⟨R, 3, none⟩ = some u3) (h4 : X.cell? ⟨R, 4, none⟩ = some u4) (v0 v1 v2 v3 v4 : Value) :
    (((((X.setCell ⟨R, 0, none⟩ v0).setCell ⟨R, 1, none⟩ v1).setCell ⟨R, 2, none⟩ v2).setCell ⟨R, 3, none⟩ v3).setCell ⟨R, 4, none⟩ v4).cell? ⟨R, 0, none⟩ = some v0 ∧
    (((((X.setCell ⟨R, 0, none⟩ v0).setCell ⟨R, 1, none⟩ v1).setCell ⟨R, 2, none⟩ v2).setCell ⟨R, 3, none⟩ v3).setCell ⟨R, 4, none⟩ v4).cell? ⟨R, 1, none⟩ = some v1 ∧
    (((((X.setCell ⟨R, 0, none⟩ v0).setCell ⟨R, 1, none⟩ v1).setCell ⟨R, 2, none⟩ v2).setCell ⟨R, 3, none⟩ v3).setCell ⟨R, 4, none⟩ v4).cell? ⟨R, 2, none⟩ = some v2 ∧
    (((((X.setCell ⟨R, 0, none⟩ v0).setCell ⟨R, 1, none⟩ v1).setCell ⟨R, 2, none⟩ v2).setCell ⟨R, 3, none⟩ v3).setCell ⟨R, 4, none⟩ v4).cell? ⟨R, 3, none⟩ = some v3 ∧
    (((((X.setCell ⟨R, 0, none⟩ v0).setCell ⟨R, 1, none⟩ v1).setCell ⟨R, 2, none⟩ v2).setCell ⟨R, 3, none⟩ v3).setCell ⟨R, 4, none⟩ v4).cell? ⟨R, 4, none⟩ = some v4 := by
  refine ⟨?_, ?_, ?_, ?_, ?_⟩
  · rw [other_cell _ _ _ _ _ (by omega), other_cell _ _ _ _ _ (by omega), other_cell _ _ _ _ _ (by omega), other_cell _ _ _ _ _ (by omega)]
    exact World.cell?_setCell_same _ _ _ h0
  · rw [other_cell _ _ _ _ _ (by omega), other_cell _ _ _ _ _ (by omega), other_cell _ _ _ _ _ (by omega)]
    exact World.cell?_setCell_same _ _ _ ((other_cell _ _ _ _ _ (by omega)).trans h1)
  · rw [other_cell _ _ _ _ _ (by omega), other_cell _ _ _ _ _ (by omega)]
    exact World.cell?_setCell_same _ _ _ ((other_cell _ _ _ _ _ (by omega)).trans ((other_cell _ _ _ _ _ (by omega)).trans h2))
  · rw [other_cell _ _ _ _ _ (by omega)]
    exact World.cell?_setCell_same _ _ _ ((other_cell _ _ _ _ _ (by omega)).trans ((other_cell _ _ _ _ _ (by omega)).trans ((other_cell _ _ _ _ _ (by omega)).trans h3)))
  · exact World.cell?_setCell_same _ _ _ ((other_cell _ _ _ _ _ (by omega)).trans ((other_cell _ _ _ _ _ (by omega)).trans ((other_cell _ _ _ _ _ (by omega)).trans ((other_cell _ _ _ _ _ (by omega)).trans h4))))

theorem Stay.five {O : Nat → Prop} (X : World) (R : Nat) (v0 v1 v2 v3 v4 : Value) (h : O R) : Stay O X (((((X.setCell ⟨R, 0, none⟩ v0).setCell ⟨R, 1, none⟩ v1).setCell ⟨R, 2, none⟩ v2).setCell ⟨R, 3, none⟩ v3).setCell ⟨R, 4, none⟩ v4) :=
  ((((Stay.setCell X _ _ h).then_same (Stay.setCell _ _ _ h)).then_same (Stay.setCell _ _ _ h)).then_same (Stay.setCell _ _ _ h)).then_same (Stay.setCell _ _ _ h)

/-- A boxed node and a result's five cells, behind a callee. -/
theorem two_boxes {w : World} {cs ds : Array Value} {t1 t2 : TypeId} {w2 : World} (hb : Below ((w.alloc (.cells cs t1)).alloc (.cells ds t2)).heap.size ((w.alloc (.cells cs t1)).alloc (.cells ds t2)) w2) :
    (∀ j v, cs[j]? = some v → w2.cell? ⟨w.heap.size, j, none⟩ = some v) ∧ (∀ j, w2.frozen? ⟨w.heap.size, j, none⟩ = false) ∧ (∀ j v, ds[j]? = some v → w2.cell? ⟨w.heap.size + 1, j, none⟩ = some v) ∧ (∀ j, w2.frozen? ⟨w.heap.size + 1, j, none⟩ = false) ∧ Below w.heap.size w w2 ∧ w.heap.size + 2 ≤ w2.heap.size := by
  have hz : (w.alloc (.cells cs t1)).heap.size = w.heap.size + 1 := by simp
  have e0 : ∀ j, ((w.alloc (.cells cs t1)).alloc (.cells ds t2)).cell? ⟨w.heap.size, j, none⟩ = cs[j]? := fun j => by
    rw [((Below.refl _ (w.alloc (.cells cs t1))).alloc (Nat.le_refl _) (.cells ds t2)).cell (p := ⟨w.heap.size, j, none⟩) (by rw [hz]; exact Nat.lt_succ_self _)]
    exact World.cell?_alloc_new w cs t1 j
  have e1 : ∀ j, ((w.alloc (.cells cs t1)).alloc (.cells ds t2)).cell? ⟨w.heap.size + 1, j, none⟩ = ds[j]? := fun j => by
    have := World.cell?_alloc_new (w.alloc (.cells cs t1)) ds t2 j
    rwa [hz] at this
  have f0 : ∀ j, ((w.alloc (.cells cs t1)).alloc (.cells ds t2)).frozen? ⟨w.heap.size, j, none⟩ = false := fun j => by
    rw [World.frozen?_of_block (a := ⟨w.heap.size, j, none⟩) (((Below.refl _ (w.alloc (.cells cs t1))).alloc (Nat.le_refl _) (.cells ds t2)).block w.heap.size (by rw [hz]; exact Nat.lt_succ_self _))]
    exact World.frozen?_alloc_new w cs t1 j
  have f1 : ∀ j, ((w.alloc (.cells cs t1)).alloc (.cells ds t2)).frozen? ⟨w.heap.size + 1, j, none⟩ = false := fun j => by
    have := World.frozen?_alloc_new (w.alloc (.cells cs t1)) ds t2 j
    rwa [hz] at this
  have l0 : w.heap.size < ((w.alloc (.cells cs t1)).alloc (.cells ds t2)).heap.size := by simp; omega
  have l1 : w.heap.size + 1 < ((w.alloc (.cells cs t1)).alloc (.cells ds t2)).heap.size := by simp
  have s2 : ((w.alloc (.cells cs t1)).alloc (.cells ds t2)).heap.size = w.heap.size + 2 := by simp
  refine ⟨fun j v hv => ((hb.cell (p := ⟨w.heap.size, j, none⟩) l0).trans (e0 j)).trans hv, fun j => (World.frozen?_of_block (a := ⟨w.heap.size, j, none⟩) (hb.block _ l0)).trans (f0 j), fun j v hv => ((hb.cell (p := ⟨w.heap.size + 1, j, none⟩) l1).trans (e1 j)).trans hv, fun j => (World.frozen?_of_block (a := ⟨w.heap.size + 1, j, none⟩) (hb.block _ l1)).trans (f1 j), ?_, ?_⟩
  · exact bel_tr (bel_tr (bel_al _ _) (bel_al _ _)) hb
  · rw [← s2]; exact hb.size

set_option maxRecDepth 100000 in
set_option maxHeartbeats 1000000 in
theorem copied_val (x : NR) (w : World) (h : NdOk w x) (hz : x.2.n * 24 ≤ 140737488355328) :
    Calls Try.prog 35 #[ndV x] w fun e w' => CopyR w.heap.size x.1 e w' ∧ Below w.heap.size w w' := by
  have CC : Hid (∀ W, Below w.heap.size w W → Calls Try.prog 50 #[.slice x.2.a x.2.n x.2.c] W fun e w' => ∃ a c, e = .returned (.slice a x.2.n c) ∧ Free W.heap.size w' (x.1, ⟨a, x.2.n, c⟩) ∧ Below W.heap.size W w') := fun W hb =>
    (clone_val x.2 x.1.bs W (h.bs.below hb) hz).mono fun e w' ⟨⟨a, c, g, h1, h2⟩, h3⟩ => ⟨a, c, h1, free_of_cel h2 h.bs.len rfl h.small, h3⟩
  obtain ⟨⟨p, d, q, bs, wr⟩, ⟨a, n, c⟩⟩ := x
  have hst := run_store_str
  have hst2 : ∀ (w : World) (a : Addr) (x : Option Addr) (n c : Nat) (m : Mode), (store a (.slice x n c) m).run Try.prog w = stored Try.prog w a (.slice x n c) m := fun w a x n c m => run_store_any w a _ m rfl
  unfold ndV
  simp only at CC
  clear h hz
  go_enter Try.func35, Try.ntmps35
  go_wp2_with fail
  refine (CC.out _ (bel_tr (bel_al _ _) (bel_al _ _))).mono ?_
  rintro e w2 ⟨a2, c2, rfl, hF, hb2⟩
  obtain ⟨q1, q2, q3, q4, q5, q6⟩ := two_boxes hb2
  have y0 := q1 0 _ rfl
  have y1 := q1 1 _ rfl
  have y2 := q1 2 _ rfl
  have y3 := q1 3 _ rfl
  have y4 := q1 4 _ rfl
  have z0 := q3 0 _ rfl
  have z1 := q3 1 _ rfl
  have z2 := q3 2 _ rfl
  have z3 := q3 3 _ rfl
  have z4 := q3 4 _ rfl
  have HF : Hid (Free (w.heap.size + 2) w2 (⟨p, d, q, bs, wr⟩, ⟨a2, n, c2⟩)) := by
    have := hF
    simp at this
    exact this
  have hb3 : Hid (Below w.heap.size w w2) := q5
  have HZ : Hid (w.heap.size + 2 ≤ w2.heap.size) := q6
  have yy0 := q2 0
  have yy1 := q2 1
  have yy2 := q2 2
  have yy3 := q2 3
  have yy4 := q2 4
  have zz0 := q4 0
  have zz1 := q4 1
  have zz2 := q4 2
  have zz3 := q4 3
  have zz4 := q4 4
  have o0 : ∀ j v, (w2.setCell ⟨w.heap.size, 3, none⟩ v).cell? ⟨w.heap.size + 1, j, none⟩ = w2.cell? ⟨w.heap.size + 1, j, none⟩ := fun j v => other_block _ _ _ _ _ _ (by omega)
  have HX : Hid (∀ v v0 v1 v2 v3 v4, Free w.heap.size ((((((w2.setCell ⟨w.heap.size, 3, none⟩ v).setCell ⟨w.heap.size + 1, 0, none⟩ v0).setCell ⟨w.heap.size + 1, 1, none⟩ v1).setCell ⟨w.heap.size + 1, 2, none⟩ v2).setCell ⟨w.heap.size + 1, 3, none⟩ v3).setCell ⟨w.heap.size + 1, 4, none⟩ v4) (⟨p, d, q, bs, wr⟩, ⟨a2, n, c2⟩) ∧ Below w.heap.size w ((((((w2.setCell ⟨w.heap.size, 3, none⟩ v).setCell ⟨w.heap.size + 1, 0, none⟩ v0).setCell ⟨w.heap.size + 1, 1, none⟩ v1).setCell ⟨w.heap.size + 1, 2, none⟩ v2).setCell ⟨w.heap.size + 1, 3, none⟩ v3).setCell ⟨w.heap.size + 1, 4, none⟩ v4)) := fun v v0 v1 v2 v3 v4 => by
    have st : Stay (fun k => k = w.heap.size ∨ k = w.heap.size + 1) w2 _ := (Stay.setCell (O := fun k => k = w.heap.size ∨ k = w.heap.size + 1) w2 ⟨w.heap.size, 3, none⟩ v (.inl rfl)).then_same (Stay.five _ (w.heap.size + 1) v0 v1 v2 v3 v4 (.inr rfl))
    refine ⟨(Stay.free HF.out st (fun k hk e => ?_)).mono (by omega), q5.trans (st.below (by omega) (fun k hk => by omega))⟩
    have := HF.out.blk_ge k hk
    omega
  have K0 := (five (X := w2.setCell ⟨w.heap.size, 3, none⟩ (.slice a2 n c2)) (R := w.heap.size + 1) ((o0 0 _).trans z0) ((o0 1 _).trans z1) ((o0 2 _).trans z2) ((o0 3 _).trans z3) ((o0 4 _).trans z4) (.string p) (.bool d) (.int .i64 q) (.slice a2 n c2) (.int .i64 wr))
  have HK : Hid _ := K0
  clear K0 hF hb2 q1 q2 q3 q4 q5 q6 CC o0 HF
  generalize hRR : w.heap.size = R at *
  have HRR : Hid (w.heap.size = R) := hRR
  clear hRR
  go_wp2
  obtain ⟨k0, k1, k2, k3, k4⟩ := HK.out
  exact bodyPost_ret (v := ndV (⟨p, d, q, bs, wr⟩, ⟨a2, n, c2⟩)) (by simp [results, ndV, Try.results35, go_sem, k0, k1, k2, k3, k4]) rfl (by rw [HRR.out]; exact ⟨⟨⟨a2, n, c2⟩, rfl, (HX.out _ _ _ _ _ _).1⟩, (HX.out _ _ _ _ _ _).2⟩)

end Go.Proofs.Ytlfehfajaelmlaa
