/- Part 28 of the proof: SpaceF2, SpaceF3, SpaceF4, SpaceF6, SpaceF5, SpaceF7, SpaceF8, SpaceF9, ImageF4, ImageG1, SpaceFA, SpaceFB, SpaceFC, SpaceFD, SpaceFE, SpaceFF, SpaceFG, SpaceFH, SpaceFI, SpaceFJ, SpaceFL, SpaceFM, SpaceFN, SpaceFO, SpaceFK, SpaceFP, SpaceFQ, SpaceFR, SpaceFV, SpaceR1, SpaceFU, SpaceFT, SpaceL1, SpaceL5. -/
import Derived.Test.YtigomhilcnnjdaaGreatB03
import Derived.Test.YtigomhilcnnjdaaGreatB05
import Derived.Test.YtigomhilcnnjdaaGreatB16
import Derived.Test.YtigomhilcnnjdaaGreatB17
import Derived.Test.YtigomhilcnnjdaaGreatB18
import Derived.Test.YtigomhilcnnjdaaGreatB19
import Derived.Test.YtigomhilcnnjdaaGreatB21
import Derived.Test.YtigomhilcnnjdaaGreatB24
import Derived.Test.YtigomhilcnnjdaaGreatB26
import Derived.Test.YtigomhilcnnjdaaGreatB27
import Derived.BigQuiet
import Derived.Deep.LoopGhost
import Derived.Shelf.SlSortCmp.NoneTotal

/- The contract of space.gathered: all blocks, sorted. -/
namespace Go.Proofs.YtigomhilcnnjdaaGreat.Spa
open Go.RowKit Go.Proofs.YtigomhilcnnjdaaGreat

def cmpB (x y : Blk) : Int := Lea.cmpI x.id y.id
theorem ltOf_cmp (x y : Blk) : ltOf cmpB x y = decide (x.id < y.id) := by
  unfold ltOf cmpB
  rw [Bool.eq_iff_iff, decide_eq_true_eq, decide_eq_true_eq]
  exact Lea.cmpI_neg
theorem swoB : Sort.SWO (ltOf cmpB) where
  irrefl x := by rw [ltOf_cmp]; simp
  trans x y z h1 h2 := by rw [ltOf_cmp] at *; simp at *; omega
  ntrans x y z h1 h2 := by rw [ltOf_cmp] at *; simp at *; omega

set_option maxRecDepth 100000 in
theorem gath1_val (x y : Blk) (w : World) : Calls Tryz.prog 81 #[.agg #[.int .i64 x.id, .int .i64 x.gen, .int .i64 x.len], .agg #[.int .i64 y.id, .int .i64 y.gen, .int .i64 y.len]] w fun e w' => e = .returned (.int .i64 (cmpB x y)) ∧ ∃ q os', w' = Sort.grow (w.drewN q) os' := by
  obtain ⟨i, g, l⟩ := x
  obtain ⟨i2, g2, l2⟩ := y
  unfold cmpB
  simp only
  obtain ⟨r, hr⟩ : ∃ r, Lea.cmpI i i2 = r := ⟨_, rfl⟩
  have CC : Hid (∀ W, Calls Tryz.prog 82 #[.int .i64 i, .int .i64 i2] W fun e w' => e = .returned (.int .i64 r) ∧ w' = W) := fun W => Lea.compare_val i i2 r W hr
  rw [hr]
  clear hr
  go_enter Tryz.func81, Tryz.ntmps81
  go_wp2_with (refine (CC.out _).mono ?_; rintro e w1 ⟨rfl, rfl⟩)
  go_ret
  exact ⟨rfl, 0, _, by rw [Sort.alloc_eq_grow, Sort.alloc_eq_grow, Sort.grow_grow]; rfl⟩

theorem bk_get (ps : List Blk) (i : Nat) (hi : i < ps.length) : ps.toArray[i]! = ps[i] := by
  simp [hi]

theorem holds_of_cel {O : Nat → Prop} {w : World} {blk n c : Nat} {ps : List Blk} (h : Cel O w 3 (.slice (some ⟨blk, 0, none⟩) n c) n (rowC blkC ps) (some blk)) (hn : ps.length = n) : Sort.HoldsK blkC 3 w blk 0 ps.toArray := by
  obtain ⟨hc1, hc2, _⟩ := h.cap2
  intro t ht
  rw [Sort.size_flatK, List.size_toArray] at ht
  have hd : t / 3 < ps.length := by omega
  have e := rowC_at wideB ps (t / 3) hd (t % 3) (by omega)
  have e2 : t / 3 * 3 + t % 3 = t := by omega
  rw [e2] at e
  have hl : t < (rowC blkC ps).length := by rw [rowC_len wideB]; exact ht
  have hc := h.cell t hl
  refine ⟨?_, ?_⟩
  · rw [Nat.zero_add, hc, Sort.get_flatK _ _ _ _ (by rw [List.size_toArray]; exact ht), bk_get ps _ hd]
    rw [List.getElem?_eq_getElem hl] at e
    have e3 : (blkC ps[t / 3])[t % 3]! = (rowC blkC ps)[t] := by
      rw [List.getElem!_eq_getElem?_getD, ← e]; rfl
    rw [e3]; rfl
  · rw [Nat.zero_add]
    have : n * 3 ≤ c * 3 := Nat.mul_le_mul_right _ hc1
    exact (h.live t (by omega)).2

theorem cel_of_holds {O : Nat → Prop} {w w' : World} {blk n c : Nat} {ps qs : List Blk} (h : Cel O w 3 (.slice (some ⟨blk, 0, none⟩) n c) n (rowC blkC ps) (some blk)) (hq : qs.length = n) (hH : Sort.HoldsK blkC 3 w' blk 0 qs.toArray) (hs : w.heap.size ≤ w'.heap.size)
    (hlive : ∀ j, j < c * 3 → (w'.cell? ⟨blk, j, none⟩).isSome = true ∧ w'.frozen? ⟨blk, j, none⟩ = false) : Cel O w' 3 (.slice (some ⟨blk, 0, none⟩) n c) n (rowC blkC qs) (some blk) := by
  obtain ⟨hc1, hc2, _⟩ := h.cap2
  obtain ⟨h3, h2⟩ := h.lt
  refine .row blk c rfl (by rw [rowC_len wideB, hq]) h2 (by omega) hc1 hc2 (fun t ht => ?_) hlive
  rw [rowC_len wideB] at ht
  have hd : t / 3 < qs.length := by omega
  have hc := (hH t (by rw [Sort.size_flatK, List.size_toArray]; exact ht)).1
  rw [Nat.zero_add, Sort.get_flatK _ _ _ _ (by rw [List.size_toArray]; exact ht), bk_get qs _ hd] at hc
  rw [hc]
  have e := rowC_at wideB qs (t / 3) hd (t % 3) (by omega)
  have e2 : t / 3 * 3 + t % 3 = t := by omega
  rw [e2] at e
  have hl : t < (rowC blkC qs).length := by rw [rowC_len wideB]; exact ht
  rw [List.getElem?_eq_getElem hl] at e
  have e3 : (blkC qs[t / 3])[t % 3]! = (rowC blkC qs)[t] := by
    rw [List.getElem!_eq_getElem?_getD, ← e]; rfl
  rw [e3]; rfl

theorem sorted_stay (w : World) (blk m : Nat) (d : Array Blk) (os : Array Obj) : Stay (fun k => some blk = some k) w (sortWorldK blkC 3 w blk 0 m d os) := by
  refine ⟨rfl, rfl, rfl, size_sortWorldK_c blkC 3 w blk 0 m d os, fun k hk hne => ?_⟩
  unfold sortWorldK
  have hb : k ≠ blk := fun e => hne (by rw [e])
  have h1 : k < (Sort.putRowK blkC 3 (Sort.ahead w m) blk 0 d).heap.size := by rw [Sort.size_putRowK]; exact hk
  rw [Sort.heap_grow_old _ _ h1]
  unfold Sort.putRowK Sort.putRow Sort.mapBlock
  simp only [Array.getElem?_modify]
  rw [if_neg (fun e => hb e.symm)]
  rfl

theorem sorted_live (w : World) (blk m j : Nat) (d0 d : Array Blk) (os : Array Obj) (hblk : blk < w.heap.size) (hH : Sort.HoldsK blkC 3 w blk 0 d0) (hs : d.size = d0.size) (h : (w.cell? ⟨blk, j, none⟩).isSome = true ∧ w.frozen? ⟨blk, j, none⟩ = false) :
    ((sortWorldK blkC 3 w blk 0 m d os).cell? ⟨blk, j, none⟩).isSome = true ∧ (sortWorldK blkC 3 w blk 0 m d os).frozen? ⟨blk, j, none⟩ = false := by
  have h1 : blk < (Sort.putRowK blkC 3 (Sort.ahead w m) blk 0 d).heap.size := by rw [Sort.size_putRowK]; exact hblk
  constructor
  · by_cases hj : j < d.size * 3
    · have := (holdsK_sortWorldK_c blkC 3 w blk 0 d0 d m os hH hblk hs j (by rw [Sort.size_flatK]; exact hj)).1
      rw [Nat.zero_add] at this
      rw [this]; rfl
    · unfold sortWorldK
      rw [Sort.cell?_grow _ _ _ h1]
      unfold Sort.putRowK
      rw [Sort.cell?_putRow_other _ _ _ _ _ _ (.inr (.inr (by rw [Sort.size_flatK]; show 0 + d.size * 3 ≤ j; omega)))]
      exact h.1
  · unfold sortWorldK
    rw [Sort.frozen?_grow _ _ _ h1]
    unfold Sort.putRowK
    rw [Sort.frozen?_putRow]
    exact h.2

theorem perm_of_in {d d' : Array Blk} (h : Sort.PermIn 0 d.size d d') : d'.toList.Perm d.toList := by
  obtain ⟨h1, _, h3⟩ := h
  have e1 : d'.extract 0 d.size = d' := by rw [← h1]; simp
  have e2 : d.extract 0 d.size = d := by simp
  rw [e1, e2] at h3
  exact h3

theorem sorted_of_in {d' : Array Blk} {n : Nat} (hn : d'.size = n) (h : Sort.SortedIn (ltOf cmpB) 0 n d') : d'.toList.Pairwise (fun x y => x.id ≤ y.id) := by
  rw [List.pairwise_iff_getElem]
  intro i j hi hj hij
  rw [Array.length_toList] at hi hj
  have := h i j (Nat.zero_le _) hij (by omega)
  rw [ltOf_cmp] at this
  have e1 : d'[i]! = d'[i] := by simp [hi]
  have e2 : d'[j]! = d'[j] := by simp [hj]
  rw [e1, e2] at this
  simpa using this


/-- Blocks of the call's own, sorted. -/
structure Sorted (base : Nat) (bs : List Blk) (a : Option Addr) (m c : Nat) (ys : List Blk) (w' : World) : Prop where
  len : ys.length = m
  perm : ys.Perm bs
  up : ys.Pairwise (fun x y => x.id ≤ y.id)
  cel : ∃ g, Cel (fun k => base ≤ k) w' 3 (.slice a m c) m (rowC blkC ys) g

set_option maxRecDepth 100000 in
set_option maxHeartbeats 1000000 in
theorem sort_val {base m c : Nat} {a : Option Addr} {bs : List Blk} {w : World} {g : Option Nat} (h : Cel (fun k => base ≤ k) w 3 (.slice a m c) m (rowC blkC bs) g) (hl : bs.length = m) (hB : base ≤ w.heap.size) (hp : 0 < m) (hm : m ≤ 1000) :
    Calls Tryz.prog 80 #[.slice a m c, .func (.func 81) #[] #[]] w fun e w' => e = .returned (.tuple #[]) ∧ (∃ ys, Sorted base bs a m c ys w') ∧ Below base w w' := by
  obtain ⟨blk, rfl, rfl⟩ := h.at2 hp
  have hlt := h.lt.1
  have hH := holds_of_cel h hl
  have eg : ∀ args w, (callFunc 81 args).run Tryz.prog w = .ok (.enter 81 args) w := enters_of Tryz.func81 (by kernel_rfl) rfl
  have hcmp : CmpLays Tryz.prog 81 #[] blkC 3 cmpB blk 0 bs.toArray.size w := fun _ _ _ _ x y => gath1_val x y _
  have hcon := AnyQ.slices_SortFunc sortBk 3 Tryz.isAgg81 Tryz.sizeOf81 blkC (fun _ => rfl) (fun x v hv => wideB.one x v hv) cmpB swoB 81 #[] blk 0 c bs.toArray w eg hcmp hH hlt (by rw [List.size_toArray]; omega)
  rw [List.size_toArray, hl] at hcon
  change Calls Tryz.prog 80 _ _ _ at hcon
  refine hcon.mono fun e w' ⟨he, d', q, os, hP, hS, hw⟩ => ?_
  have hsA : bs.toArray.size = m := by simp [hl]
  have hsz : d'.size = m := by
    have := hP.1
    omega
  have hperm : d'.toList.Perm bs := perm_of_in (by rw [List.size_toArray, hl]; exact hP)
  have hst : Stay (fun k => some blk = some k) w w' := by rw [hw]; exact sorted_stay w blk q d' os
  have hdl : d'.toList.length = m := by rw [Array.length_toList]; exact hsz
  have hH' : Sort.HoldsK blkC 3 w' blk 0 d'.toList.toArray := by
    rw [hw]
    exact holdsK_sortWorldK_c blkC 3 w blk 0 bs.toArray d'.toList.toArray q os hH hlt (by rw [List.size_toArray, List.size_toArray]; omega)
  have hcel := cel_of_holds h hdl hH' hst.size (fun j hj => by
    rw [hw]
    exact sorted_live w blk q j bs.toArray d' os hlt hH (by omega) (h.live j hj))
  exact ⟨he, ⟨d'.toList, hdl, hperm, sorted_of_in hsz hS, _, hcel⟩, hst.below hB (fun k hk => by cases hk; exact h.lt.2)⟩

theorem sort_none {a : Option Addr} {c : Nat} {w : World} : Calls Tryz.prog 80 #[.slice a 0 c, .func (.func 81) #[] #[]] w fun e w' => e = .returned (.tuple #[]) ∧ w' = w :=
  AnyF.slices_SortFunc_none sortBk a c _ w

theorem sort_any {base m c : Nat} {a : Option Addr} {bs : List Blk} {w : World} {g : Option Nat} (h : Cel (fun k => base ≤ k) w 3 (.slice a m c) m (rowC blkC bs) g) (hl : bs.length = m) (hB : base ≤ w.heap.size) (hm : m ≤ 1000) :
    Calls Tryz.prog 80 #[.slice a m c, .func (.func 81) #[] #[]] w fun e w' => e = .returned (.tuple #[]) ∧ (∃ ys, Sorted base bs a m c ys w') ∧ Below base w w' := by
  by_cases hp : 0 < m
  · exact sort_val h hl hB hp hm
  · obtain rfl : m = 0 := by omega
    have e : bs = [] := List.length_eq_zero_iff.1 hl
    subst e
    refine sort_none.mono fun e w' ⟨h1, h2⟩ => ?_
    subst h2
    exact ⟨h1, ⟨[], rfl, List.Perm.refl _, List.Pairwise.nil, g, h⟩, Below.refl _ _⟩

theorem blks_few {xs : NS} (h8 : ∀ x ∈ xs, x.bs.length ≤ 8) : (blksL xs).length ≤ xs.length * 8 := by
  induction xs with
  | nil => simp [blksL]
  | cons x xs ih =>
    have h1 := h8 x (by simp)
    have h2 := ih (fun y hy => h8 y (List.mem_cons_of_mem _ hy))
    have e : blksL (x :: xs) = x.bs ++ blksL xs := rfl
    rw [e, List.length_append, List.length_cons]
    omega
theorem blks_take {xs : NS} {i : Nat} (hi : i < xs.length) : blksL (xs.take (i + 1)) = blksL (xs.take i) ++ xs[i].bs := by
  rw [List.take_succ_eq_append_getElem hi, blks_app, blks_one]
theorem blks_sub {xs : NS} (i : Nat) : (blksL (xs.take i)).length ≤ (blksL xs).length := (sub_blks (List.take_sublist i xs)).length_le

structure GathR (base : Nat) (xs : NS) (e : Ending) (w' : World) : Prop where
  ex : ∃ a m c ys, e = .returned (.slice a m c) ∧ Sorted base (blksL xs) a m c ys w'

set_option maxRecDepth 100000 in
set_option maxHeartbeats 2000000 in
theorem gathered_val {a : Option Addr} {n c : Nat} {xs : NS} {w : World} (h : NL w a n xs) (hR : Right xs) :
    Calls Tryz.prog 53 #[.slice a n c] w fun e w' => GathR w.heap.size xs e w' ∧ Below w.heap.size w w' := by
  obtain ⟨ti, hi1, hi2, hi3, hi4⟩ := blkRow
  obtain ⟨b, off, ps, k1, k2, k3⟩ := h.ex
  have HK : Hid (Nds w a b off ps) := k3
  have HP : Hid (ps.length = n) := by show ps.length = n; rw [← k2, ← k1, List.length_map]
  have HM : Hid (ps.map (·.1) = xs) := k1
  have hn60 : n ≤ 60 := by rw [← k2]; exact hR.few
  have HF : Hid ((blksL xs).length ≤ 480) := by
    have := blks_few hR.few8
    have := hR.few
    show _ ≤ 480
    omega
  clear h k1 k2 k3 hR
  go_enter Tryz.func53, Tryz.ntmps53
  go_wp2
  go_loopw [3, 5, 8] (fun v3 _ v8 wr => ∃ (i : Nat) (fa : Option Addr) (fn fc : Nat) (g : Option Nat), i ≤ n ∧ v8 = .int .i64 i ∧ v3 = .slice fa fn fc ∧ Cel (fun k => w.heap.size ≤ k) wr 3 (.slice fa fn fc) fn (rowC blkC (blksL (xs.take i))) g ∧ (blksL (xs.take i)).length = fn ∧ Below w.heap.size w wr) (fun _ _ v8 _ => n - (intOf v8).toNat)
  case atStart => exact ⟨0, none, 0, 0, none, by omega, rfl, rfl, .nil rfl rfl rfl, rfl, Below.refl _ _⟩
  case round =>
    obtain ⟨i, fa, fn, fc, g, hi, rfl, rfl, hL, hq, hb⟩ := hrel
    have HB : Hid (Below w.heap.size w wr) := hb
    have HL : Hid (Cel (fun k => w.heap.size ≤ k) wr 3 (.slice fa fn fc) fn (rowC blkC (blksL (xs.take i))) g) := hL
    have HQ : Hid ((blksL (xs.take i)).length = fn) := hq
    have hfn : fn ≤ 480 := by have := HF.out; have := blks_sub (xs := xs) i; omega
    by_cases hlt : i < n
    · have hip : i < ps.length := by rw [HP.out]; exact hlt
      have hix : i < xs.length := by rw [← HM.out, List.length_map]; exact hip
      have hK := HK.out.below hb
      obtain ⟨e0, e1, e2, e3, e4⟩ := hK.at hip
      obtain rfl := hK.addr (by omega)
      have hok := hK.ok _ (List.getElem_mem hip)
      have exi : ps[i].1 = xs[i] := by
        have := HM.out
        subst this
        simp
      have hBT := blks_take hix
      rw [← exi] at hBT
      have HBT : Hid _ := hBT
      have hsn : ps[i].2.n ≤ 480 := by
        have h1 := HF.out
        have h2 := blks_sub (xs := xs) (i + 1)
        rw [hBT, List.length_append, hok.bs.len] at h2
        omega
      have HS : Hid (∀ o, Src Tryz.prog 3 53 (.slice ps[i].2.a ps[i].2.n ps[i].2.c) ps[i].2.n (rowC blkC ps[i].1.bs) (wr.alloc o)) := fun o => (hok.bs.below (bel_al wr o)).src (fun e => by
        rcases Nat.eq_zero_or_pos ps[i].2.n with h0 | h0
        · exact h0
        · obtain ⟨b, off, ha, _⟩ := hok.bs.cells h0
          rw [e] at ha; cases ha)
      have HSL : Hid (ps[i].1.bs.length = ps[i].2.n) := hok.bs.len
      clear hb hL hq hok exi hBT hix hK
      generalize ps[i] = x at *
      obtain ⟨⟨p, d, q, bs, wb⟩, ⟨sa, sn, sc⟩⟩ := x
      simp only at e0 e1 e2 e3 e4 HBT HS HSL hsn
      have hst := run_store_str
      have hst2 : ∀ (w : World) (a : Addr) (x : Option Addr) (n c : Nat) (m : Mode), (store a (.slice x n c) m).run Tryz.prog w = stored Tryz.prog w a (.slice x n c) m := fun w a x n c m => run_store_any w a _ m rfl
      have HAP : Hid (∀ o a2 c2 w4 g4, Cel (Grow (fun k => w.heap.size ≤ k) (wr.alloc o) w4) w4 3 (.slice a2 (fn + sn) c2) (fn + sn) (rowC blkC (blksL (xs.take i)) ++ rowC blkC bs) g4 → Stay (fun k => g = some k) (wr.alloc o) w4 → Cel (fun k => w.heap.size ≤ k) w4 3 (.slice a2 (fn + sn) c2) (fn + sn) (rowC blkC (blksL (xs.take (i + 1)))) g4 ∧ Below w.heap.size w w4) := fun o a2 c2 w4 g4 hC hS => by
        have z0 := HB.out.size
        rw [HBT.out, rowC_app]
        refine ⟨grow_base (by simp; omega) (fun k hk => hk) hC, (HB.out.trans ((bel_al wr o).mono (by omega))).trans (hS.below (by simp; omega) (fun k hk => ?_))⟩
        have := HL.out; rw [hk] at this; exact this.lt.2
      go_wp2_with (at_builtin; refine wpList_append_cel _ rfl _ _ 53 53 rfl 81 ti _ 3 24 Tryz.underlying53 hi1 hi2 hi3 hi4 rfl (O := fun k => w.heap.size ≤ k) _ fn _ g rfl (HL.out.below (bel_al _ _)) _ sn (rowC blkC bs) rfl (HS.out _) (by unfold maxLen; omega) (by omega) ?_; intro a5 c5 w5 g5 hC5 hS5 hf5; have HX : Hid _ := HAP.out _ a5 c5 w5 g5 hC5 hS5; clear hC5 hS5 hf5)
      go_roundw
      case rel => exact ⟨i + 1, a5, fn + sn, c5, g5, by omega, by go_num, rfl, HX.out.1, by rw [HBT.out, List.length_append, HQ.out, HSL.out], HX.out.2⟩
      case measure => simp [intOf]; omega
    · obtain rfl : i = n := by omega
      have hgd : decide ((i : Int) < (i : Int)) = false := decide_eq_false (by omega)
      have hall : xs.take i = xs := List.take_of_length_le (by rw [← HM.out, List.length_map, HP.out]; omega)
      rw [hall] at hL hq
      have CS : Hid (Calls Tryz.prog 80 #[.slice fa fn fc, .func (.func 81) #[] #[]] wr fun e w' => e = .returned (.tuple #[]) ∧ (∃ ys, Sorted w.heap.size (blksL xs) fa fn fc ys w') ∧ Below w.heap.size wr w') := sort_any hL hq hb.size (by omega)
      clear hb hL hq hlt hall
      go_wp2_with (refine CS.out.mono ?_; rintro e w5 ⟨rfl, hS5, c5⟩; have HS5 : Hid _ := hS5; have B5 : Hid (Below w.heap.size w w5) := HB.out.trans c5; clear hS5 c5)
      go_ret
      obtain ⟨ys, hS⟩ := HS5.out
      exact ⟨⟨fa, fn, fc, ys, rfl, hS⟩, B5.out⟩

end Go.Proofs.YtigomhilcnnjdaaGreat.Spa

/- The contracts of space.blocksFit, allLeased. -/
namespace Go.Proofs.YtigomhilcnnjdaaGreat.Spa
open Go.RowKit Go.Proofs.YtigomhilcnnjdaaGreat
open Go.Proofs.YtigomhilcnnjdaaGreat.Lea (LS Ls findX putL renX LL LO LsR)

def spV (s : Sp) (N L : RS) : Value := .agg #[.int .i64 s.tx, .int .i64 s.nb, .int .i64 s.ng, .int .i64 s.now, .slice N.a N.n N.c, .slice L.a L.n L.c]
/-- A space that is handed on. -/
structure SpIn (w : World) (s : Sp) (N L : RS) : Prop where
  nl : NL w N.a N.n s.ns
  ll : LL w L.a L.n L.c s.ls
  nil : N.a = none → N.c = 0
theorem SpIn.below {w w' : World} {s : Sp} {N L : RS} (h : SpIn w s N L) (hb : Below w.heap.size w w') : SpIn w' s N L := ⟨h.nl.below hb, h.ll.below hb, h.nil⟩

/-- The blocks are all unlike, and older than what comes next. -/
def BksOk (s : Sp) : Prop := (blksL s.ns).Pairwise (fun a b => a.id ≠ b.id) ∧ ∀ b ∈ blksL s.ns, b.id < s.nb ∧ b.gen < s.ng

theorem Sorted.mono {b1 b2 : Nat} {bs : List Blk} {a : Option Addr} {m c : Nat} {ys : List Blk} {w : World} (h : Sorted b1 bs a m c ys w) (hb : b2 ≤ b1) : Sorted b2 bs a m c ys w := by
  obtain ⟨g, hc⟩ := h.cel
  exact ⟨h.len, h.perm, h.up, g, hc.stay (Nat.le_refl _) (fun _ _ => rfl) (fun _ e => Nat.le_trans hb e)⟩
theorem Sorted.at {base : Nat} {bs : List Blk} {a : Option Addr} {m c : Nat} {ys : List Blk} {w w' : World} (h : Sorted base bs a m c ys w) (hb : Below w.heap.size w w') (hp : 0 < m) : ∃ b, a = some ⟨b, 0, none⟩ ∧ ∀ j (hj : j < ys.length), w'.cell? ⟨b, j * 3, none⟩ = some (.int .i64 ys[j].id) ∧ w'.cell? ⟨b, j * 3 + 1, none⟩ = some (.int .i64 ys[j].gen) ∧ w'.cell? ⟨b, j * 3 + 2, none⟩ = some (.int .i64 ys[j].len) := by
  obtain ⟨g, hc⟩ := h.cel
  have hl := h.len
  obtain ⟨b, rfl, rfl⟩ := hc.at2 hp
  refine ⟨b, rfl, fun j hj => ?_⟩
  obtain ⟨b', e1, e2, e3⟩ := (hc.below hb).elem wideB hj hl
  cases e1
  exact ⟨e3 0 _ rfl, e3 1 _ rfl, e3 2 _ rfl⟩

structure UpTo (nb ng : Int) (ys : List Blk) (i : Nat) : Prop where
  lo : ∀ j (hj : j < ys.length), j < i → ys[j].id < nb ∧ ys[j].gen < ng
  up : ∀ j (hj : j + 1 < ys.length), j + 1 < i → ys[j].id ≠ ys[j + 1].id

theorem up_all {ys : List Blk} (h : ys.Pairwise (fun x y => x.id ≤ y.id)) (hu : ∀ j (hj : j + 1 < ys.length), ys[j].id ≠ ys[j + 1].id) : ys.Pairwise (fun x y => x.id ≠ y.id) := by
  rw [List.pairwise_iff_getElem] at *
  intro i j hi hj hij
  have h1 := h i (i + 1) hi (by omega) (by omega)
  have h2 := hu i (by omega)
  by_cases e : i + 1 = j
  · subst e; exact h2
  · have := h (i + 1) j (by omega) hj (by omega)
    omega

set_option maxRecDepth 100000 in
set_option maxHeartbeats 4000000 in
theorem blocksFit_val {s : Sp} {N L : RS} {w : World} (h : NL w N.a N.n s.ns) (hR : Right s.ns) (v : Bool) (hv : v = true ↔ BksOk s) :
    Calls Tryz.prog 32 #[spV s N L] w fun e w' => e = .returned (.bool v) ∧ Below w.heap.size w w' := by
  have CG : Hid (∀ o, Calls Tryz.prog 53 #[.slice N.a N.n N.c] (w.alloc o) fun e w' => GathR (w.alloc o).heap.size s.ns e w' ∧ Below (w.alloc o).heap.size (w.alloc o) w') := fun o => gathered_val (h.below (bel_al _ _)) hR
  have HV : Hid (v = true ↔ BksOk s) := hv
  have HF : Hid ((blksL s.ns).length ≤ 480) := by
    have := blks_few hR.few8
    have := hR.few
    show _ ≤ 480
    omega
  clear h hR hv
  obtain ⟨tx, nb, ng, now, ns, ls⟩ := s
  obtain ⟨na, nn, nc⟩ := N
  obtain ⟨la, ln, lc⟩ := L
  unfold spV
  simp only at CG HF ⊢
  have hst := run_store_str
  go_enter Tryz.func32, Tryz.ntmps32
  go_wp2_with (go_at_call 53; refine (CG.out _).mono ?_; rintro e w1 ⟨⟨fa, m, fc, ys, rfl, hS⟩, c1⟩)
  have HS : Hid (Sorted w.heap.size (blksL ns) fa m fc ys w1) := hS.mono (by simp)
  have y1 := bel_cell c1 (World.cell?_alloc_new w _ _ 1)
  have y2 := bel_cell c1 (World.cell?_alloc_new w _ _ 2)
  have Y1 : Hid (w1.cell? ⟨w.heap.size, 1, none⟩ = some (.int .i64 nb)) := y1
  have Y2 : Hid (w1.cell? ⟨w.heap.size, 2, none⟩ = some (.int .i64 ng)) := y2
  have B1 : Hid (Below w.heap.size w w1) := bel_tr (bel_al _ _) c1
  have hm : m ≤ 480 := by rw [← hS.len, hS.perm.length_eq]; exact HF.out
  clear hS c1 y1 y2
  go_loopw [5, 11] (fun _ v11 wr => ∃ i : Nat, i ≤ m ∧ v11 = .int .i64 i ∧ Below w1.heap.size w1 wr ∧ UpTo nb ng ys i) (fun _ v11 _ => m - (intOf v11).toNat)
  case atStart => exact ⟨0, by omega, rfl, Below.refl _ _, fun j hj h => by omega, fun j hj h => by omega⟩
  case round =>
    obtain ⟨i, hi, rfl, hb, hU⟩ := hrel
    have HB : Hid (Below w1.heap.size w1 wr) := hb
    have HU : Hid (UpTo nb ng ys i) := hU
    by_cases hlt : i < m
    · have hiy : i < ys.length := by rw [HS.out.len]; exact hlt
      obtain ⟨b, rfl, hat⟩ := HS.out.at hb (by omega)
      obtain ⟨e0, e1, e2⟩ := hat i hiy
      have y1 := bel_cell hb Y1.out
      have y2 := bel_cell hb Y2.out
      have q1 := cell_al y1
      have q2 := cell_al y2
      have HLO : Hid (¬ (ys[i].id < nb ∧ ys[i].gen < ng) → v = false) := fun hn => by
        rw [Bool.eq_false_iff]; intro e
        exact hn ((HV.out.1 e).2 _ (HS.out.perm.subset (List.getElem_mem hiy)))
      have HNX : Hid ((ys[i].id < nb ∧ ys[i].gen < ng) → (∀ j (hj : j < ys.length), j + 1 = i → ys[j].id ≠ ys[i].id) → UpTo nb ng ys (i + 1)) := fun h1 h2 => by
        refine ⟨fun j hj hji => ?_, fun j hj hji => ?_⟩
        · by_cases e : j = i
          · subst e; exact h1
          · exact hU.lo j hj (by omega)
        · by_cases e : j + 1 = i
          · subst e; exact h2 j (by omega) rfl
          · exact hU.up j hj (by omega)
      have HEQ : Hid (∀ j (hj : j < ys.length), j + 1 = i → ys[j].id = ys[i].id → v = false) := fun j hj e he => by
        rw [Bool.eq_false_iff]; intro e2
        have := pair_perm HS.out.perm.symm (HV.out.1 e2).1
        rw [List.pairwise_iff_getElem] at this
        exact this j i hj hiy (by omega) he
      cases c1 : decide (nb ≤ ys[i].id) with
      | true =>
        obtain rfl := HLO.out (by rw [decide_eq_true_eq] at c1; omega)
        clear HLO HNX HEQ hat hb hU y1 y2
        generalize ys[i].id = bi at *
        generalize ys[i].gen = bg at *
        generalize ys[i].len = bl at *
        go_wp2
        go_quiet (fail)
        go_wp2
        go_ret
        exact ⟨rfl, bel_tr B1.out (bel_tr HB.out (bel_tr (bel_al _ _) (bel_drewN _ _)))⟩
      | false =>
        cases c2 : decide (ng ≤ ys[i].gen) with
        | true =>
          obtain rfl := HLO.out (by rw [decide_eq_true_eq] at c2; omega)
          clear HLO HNX HEQ hat hb hU y1 y2
          generalize ys[i].id = bi at *
          generalize ys[i].gen = bg at *
          generalize ys[i].len = bl at *
          go_wp2
          go_quiet (fail)
          go_wp2
          go_ret
          exact ⟨rfl, bel_tr B1.out (bel_tr HB.out (bel_tr (bel_al _ _) (bel_drewN _ _)))⟩
        | false =>
          have hlo : ys[i].id < nb ∧ ys[i].gen < ng := by
            rw [decide_eq_false_iff_not] at c1 c2
            omega
          by_cases h0 : i = 0
          · have HX : Hid (UpTo nb ng ys (i + 1)) := HNX.out hlo (fun j hj e => by omega)
            clear HLO HNX HEQ hat hb hU y1 y2 hlo
            generalize ys[i].id = bi at *
            generalize ys[i].gen = bg at *
            generalize ys[i].len = bl at *
            have h0i : decide (0 < i) = false := decide_eq_false (by omega)
            have h0j : decide ((0 : Int) < (i : Int)) = false := decide_eq_false (by omega)
            clear h0 hiy
            go_wp2
            go_quiet (fail)
            go_wp2
            go_roundw
            case rel => exact ⟨i + 1, by omega, by go_num, bel_tr HB.out (bel_tr (bel_al _ _) (bel_drewN _ _)), HX.out⟩
            case measure => simp [intOf]; omega
          · obtain ⟨k, hk⟩ : ∃ k, i = k + 1 := ⟨i - 1, by omega⟩
            have hky : k < ys.length := by omega
            obtain ⟨f0, f1, f2⟩ := hat k hky
            have p0 := cell_al f0
            have h0i : decide (0 < i) = true := decide_eq_true (by omega)
            have h0j : decide ((0 : Int) < (i : Int)) = true := decide_eq_true (by omega)
            have hik : (i : Int) - 1 = (k : Int) := by omega
            have hkm : k < m := by omega
            cases c3 : (ys[k].id == ys[i].id) with
            | true =>
              obtain rfl := HEQ.out k hky hk.symm (by simpa using c3)
              clear HLO HNX HEQ hat hb hU y1 y2 hlo h0 f0 f1 f2
              generalize ys[i].id = bi at *
              generalize ys[i].gen = bg at *
              generalize ys[i].len = bl at *
              generalize ys[k].id = ki at *
              clear hk hky hiy
              go_wp2
              go_quiet (fail)
              go_wp2
              go_ret
              exact ⟨rfl, bel_tr B1.out (bel_tr HB.out (bel_tr (bel_al _ _) (bel_drewN _ _)))⟩
            | false =>
              have HX : Hid (UpTo nb ng ys (i + 1)) := HNX.out hlo (fun j hj e => by
                obtain rfl : j = k := by omega
                simpa using c3)
              clear HLO HNX HEQ hat hb hU y1 y2 hlo h0 f0 f1 f2
              generalize ys[i].id = bi at *
              generalize ys[i].gen = bg at *
              generalize ys[i].len = bl at *
              generalize ys[k].id = ki at *
              have HK : Hid (i = k + 1) := hk
              clear hk hky hiy
              go_wp2
              go_quiet (fail)
              go_wp2
              go_roundw
              case rel => exact ⟨i + 1, by omega, by go_num, bel_tr HB.out (bel_tr (bel_al _ _) (bel_drewN _ _)), HX.out⟩
              case measure => simp [intOf]; omega
    · obtain rfl : i = m := by omega
      have hgd : decide ((i : Int) < (i : Int)) = false := decide_eq_false (by omega)
      have hv1 : v = true := HV.out.2 ⟨pair_perm HS.out.perm (up_all HS.out.up (fun j hj => hU.up j hj (by have := HS.out.len; omega))), fun b hb => by
        obtain ⟨j, hj, rfl⟩ := List.getElem_of_mem (HS.out.perm.symm.subset hb)
        exact hU.lo j hj (by have := HS.out.len; omega)⟩
      subst hv1
      clear hb hU hlt
      go_wp2
      go_ret
      exact ⟨rfl, bel_tr B1.out HB.out⟩

end Go.Proofs.YtigomhilcnnjdaaGreat.Spa

/- The contracts of space.allLeased, Right. -/
namespace Go.Proofs.YtigomhilcnnjdaaGreat.Spa
open Go.RowKit Go.Proofs.YtigomhilcnnjdaaGreat
open Go.Proofs.YtigomhilcnnjdaaGreat.Lea (LS Ls findX putL renX LL LO LsR)

def Leased (s : Sp) : Prop := ∀ x ∈ s.ns, x.wr ≠ -1 → (Lea.untilX s.ls x.wr).2 = true

set_option maxRecDepth 100000 in
set_option maxHeartbeats 2000000 in
theorem allLeased_val {s : Sp} {N L : RS} {w : World} (h : SpIn w s N L) (v : Bool) (hv : v = true ↔ Leased s) :
    Calls Tryz.prog 34 #[spV s N L] w fun e w' => e = .returned (.bool v) ∧ Below w.heap.size w w' := by
  obtain ⟨b, off, ps, k1, k2, k3⟩ := h.nl.ex
  have HK : Hid (Nds w N.a b off ps) := k3
  have HP : Hid (ps.length = N.n) := by show ps.length = N.n; rw [← k2, ← k1, List.length_map]
  have HM : Hid (ps.map (·.1) = s.ns) := k1
  have HV : Hid (v = true ↔ Leased s) := hv
  have HLL : Hid (LL w L.a L.n L.c s.ls) := h.ll
  have hlid := h.nl.lid
  unfold maxLen at hlid
  have CU : Hid (∀ W k u b, Below w.heap.size w W → Lea.untilX s.ls k = (u, b) → Calls Tryz.prog 56 #[.slice L.a L.n L.c, .int .i64 k] W fun e w' => e = .returned (.tuple #[.int .i64 u, .bool b]) ∧ Below W.heap.size W w') := fun W k u b hb hu => Lea.until_val (HLL.out.below hb) k u b hu
  clear h k1 k2 k3 hv
  obtain ⟨tx, nb, ng, now, ns, ls⟩ := s
  obtain ⟨na, nn, nc⟩ := N
  obtain ⟨la, ln, lc⟩ := L
  unfold spV
  simp only at CU HK HP HM hlid ⊢
  have hst := run_store_str
  have hst2 : ∀ (w : World) (a : Addr) (x : Option Addr) (n c : Nat) (m : Mode), (store a (.slice x n c) m).run Tryz.prog w = stored Tryz.prog w a (.slice x n c) m := fun w a x n c m => run_store_any w a _ m rfl
  have Y5 : Hid (∀ t, (w.alloc (.cells #[.int .i64 tx, .int .i64 nb, .int .i64 ng, .int .i64 now, .slice na nn nc, .slice la ln lc] t)).cell? ⟨w.heap.size, 5, none⟩ = some (.slice la ln lc)) := fun t => World.cell?_alloc_new w _ _ 5
  go_enter Tryz.func34, Tryz.ntmps34
  go_wp2
  have y5 := Y5.out 26
  have B0 : Hid (Below w.heap.size w (w.alloc (.cells #[.int .i64 tx, .int .i64 nb, .int .i64 ng, .int .i64 now, .slice na nn nc, .slice la ln lc] 26))) := bel_al _ _
  generalize (w.alloc (.cells #[.int .i64 tx, .int .i64 nb, .int .i64 ng, .int .i64 now, .slice na nn nc, .slice la ln lc] 26)) = W0 at *
  have H5 : Hid (W0.cell? ⟨w.heap.size, 5, none⟩ = some (.slice la ln lc)) := y5
  clear y5 Y5
  go_loopw [4, 5, 6, 10] (fun _ _ _ v10 wr => ∃ i : Nat, i ≤ nn ∧ v10 = .int .i64 i ∧ Below W0.heap.size W0 wr ∧ ∀ x ∈ ns.take i, x.wr ≠ -1 → (Lea.untilX ls x.wr).2 = true) (fun _ _ _ v10 _ => nn - (intOf v10).toNat)
  case atStart => exact ⟨0, by omega, rfl, Below.refl _ _, fun x hx => (by simp at hx)⟩
  case round =>
    obtain ⟨i, hi, rfl, hb, hU⟩ := hrel
    have HB : Hid (Below W0.heap.size W0 wr) := hb
    have BW : Hid (Below w.heap.size w wr) := bel_tr B0.out hb
    have HU : Hid (∀ x ∈ ns.take i, x.wr ≠ -1 → (Lea.untilX ls x.wr).2 = true) := hU
    by_cases hlt : i < nn
    · have hip : i < ps.length := by rw [HP.out]; exact hlt
      have hix : i < ns.length := by rw [← HM.out, List.length_map]; exact hip
      have hK := HK.out.below BW.out
      obtain ⟨e0, e1, e2, e3, e4⟩ := hK.at hip
      obtain rfl := hK.addr (by omega)
      have exi : ps[i].1 = ns[i] := by
        have := HM.out
        subst this
        simp
      have HNX : Hid ((ps[i].1.wr ≠ -1 → (Lea.untilX ls ps[i].1.wr).2 = true) → ∀ x ∈ ns.take (i + 1), x.wr ≠ -1 → (Lea.untilX ls x.wr).2 = true) := fun h1 x hx => by
        rw [List.take_succ_eq_append_getElem hix] at hx
        rcases List.mem_append.1 hx with hx | hx
        · exact hU x hx
        · rw [List.mem_singleton.1 hx, ← exi]; exact h1
      have HNO : Hid (ps[i].1.wr ≠ -1 → (Lea.untilX ls ps[i].1.wr).2 = false → v = false) := fun h1 h2 => by
        rw [Bool.eq_false_iff]; intro e
        have := HV.out.1 e ns[i] (List.getElem_mem hix)
        rw [← exi] at this
        have := this h1
        rw [h2] at this; cases this
      have y5 := bel_cell hb H5.out
      have z5 := cell_al y5
      clear hb hU hK exi hix y5
      generalize ps[i] = x at *
      obtain ⟨⟨p, d, q, bs, wb⟩, ⟨sa, sn, sc⟩⟩ := x
      simp only at e0 e1 e2 e3 e4 HNX HNO
      obtain ⟨⟨u, b2⟩, hu⟩ : ∃ y, Lea.untilX ls wb = y := ⟨_, rfl⟩
      have HUN : Hid (Lea.untilX ls wb = (u, b2)) := hu
      rw [hu] at HNX HNO
      simp only at HNX HNO
      clear hu
      cases b2 with
      | true =>
        have HX : Hid _ := HNX.out (fun _ => rfl)
        clear HNX HNO
        go_wp2_with (go_at_call 56; refine (CU.out _ _ _ _ (bel_tr BW.out (bel_al _ _)) HUN.out).mono ?_; rintro e w1 ⟨rfl, c1⟩; have B1 : Hid (Below wr.heap.size wr w1) := bel_tr (bel_al _ _) c1; clear c1)
        go_roundw
        case rel => exact ⟨i + 1, by omega, by go_num, bel_tr HB.out B1.out, HX.out⟩
        case measure => simp [intOf]; omega
      | false =>
        cases hw : (wb != -1) with
        | true =>
          obtain rfl := HNO.out (by simpa using hw) rfl
          clear HNX HNO
          go_wp2_with (go_at_call 56; refine (CU.out _ _ _ _ (bel_tr BW.out (bel_al _ _)) HUN.out).mono ?_; rintro e w1 ⟨rfl, c1⟩; have B1 : Hid (Below wr.heap.size wr w1) := bel_tr (bel_al _ _) c1; have x4 := bel_cell c1 (World.cell?_alloc_new wr _ _ 4); clear c1)
          go_ret
          exact ⟨rfl, bel_tr BW.out B1.out⟩
        | false =>
          have HX : Hid _ := HNX.out (fun e => absurd (by simpa using hw) e)
          clear HNX HNO
          go_wp2_with (go_at_call 56; refine (CU.out _ _ _ _ (bel_tr BW.out (bel_al _ _)) HUN.out).mono ?_; rintro e w1 ⟨rfl, c1⟩; have B1 : Hid (Below wr.heap.size wr w1) := bel_tr (bel_al _ _) c1; have x4 := bel_cell c1 (World.cell?_alloc_new wr _ _ 4); clear c1)
          go_roundw
          case rel => exact ⟨i + 1, by omega, by go_num, bel_tr HB.out B1.out, HX.out⟩
          case measure => simp [intOf]; omega
    · obtain rfl : i = nn := by omega
      have hgd : decide ((i : Int) < (i : Int)) = false := decide_eq_false (by omega)
      have hv1 : v = true := HV.out.2 (by
        rw [List.take_of_length_le (by rw [← HM.out, List.length_map, HP.out]; omega)] at hU
        exact hU)
      subst hv1
      clear hb hU hlt
      go_wp2
      go_ret
      exact ⟨rfl, BW.out⟩

theorem rts_iff {s : Sp} : RtS s ↔ (0 ≤ s.tx ∧ s.tx ≤ 300) ∧ (1 ≤ s.nb ∧ s.nb ≤ 9007199254740991) ∧ (1 ≤ s.ng ∧ s.ng ≤ 9007199254740991) ∧ (0 ≤ s.now ∧ s.now ≤ 9007199254740981) ∧ Right s.ns ∧ overL s.ns = [] ∧ BksOk s ∧ Lea.Rt s.ls ∧ Leased s := by
  constructor
  · intro h
    exact ⟨h.tx, h.nb, h.ng, h.now, h.tree, h.over, ⟨h.ids, h.lo⟩, h.ls, fun x hx hw => by rw [Lea.untilX_yes h.ls]; exact h.wr x hx hw⟩
  · rintro ⟨h1, h2, h3, h4, h5, h6, h7, h8, h9⟩
    exact ⟨h1, h2, h3, h4, h5, h6, h7.1, h7.2, h8, fun x hx hw => by
      have := h9 x hx hw
      rwa [Lea.untilX_yes h8] at this⟩

set_option maxRecDepth 100000 in
set_option maxHeartbeats 4000000 in
theorem rightS_val {s : Sp} {N L : RS} {w : World} (h : SpIn w s N L) (u : Bool) (hu : u = true ↔ RtS s) :
    Calls Tryz.prog 12 #[spV s N L] w fun e w' => e = .returned (.bool u) ∧ Below w.heap.size w w' := by
  rw [rts_iff] at hu
  obtain ⟨tx, nb, ng, now, ns, ls⟩ := s
  obtain ⟨na, nn, nc⟩ := N
  obtain ⟨la, ln, lc⟩ := L
  have HN : Hid (NL w na nn ns) := h.nl
  have HS : Hid (SpIn w ⟨tx, nb, ng, now, ns, ls⟩ ⟨na, nn, nc⟩ ⟨la, ln, lc⟩) := h
  have CR : Hid (∀ W v, Below w.heap.size w W → (v = true ↔ Right ns) → Calls Tryz.prog 30 #[.slice na nn nc] W fun e w' => e = .returned (.bool v) ∧ Below W.heap.size W w') := fun W v hb hv => right_val (HN.out.below hb) v hv
  have CO : Hid (∀ W ys m, Below w.heap.size w W → Right ns → overL ns = ys → ys.length = m → Calls Tryz.prog 31 #[.slice na nn nc] W fun e w' => (∃ a c, e = .returned (.slice a m c)) ∧ Below W.heap.size W w') := fun W ys m hb hR hy hm => (over_val (HN.out.below hb) true ⟨fun _ => hR, fun _ => rfl⟩ ys hy m hm).mono fun e w' ⟨h1, h2⟩ => ⟨by obtain ⟨a, b, c, k, _⟩ := h1.ex; exact ⟨_, _, k⟩, h2⟩
  have CB : Hid (∀ W v, Below w.heap.size w W → Right ns → (v = true ↔ BksOk ⟨tx, nb, ng, now, ns, ls⟩) → Calls Tryz.prog 32 #[spV ⟨tx, nb, ng, now, ns, ls⟩ ⟨na, nn, nc⟩ ⟨la, ln, lc⟩] W fun e w' => e = .returned (.bool v) ∧ Below W.heap.size W w') := fun W v hb hR hv => blocksFit_val (s := ⟨tx, nb, ng, now, ns, ls⟩) (N := ⟨na, nn, nc⟩) (HN.out.below hb) hR v hv
  have CL : Hid (∀ W v, Below w.heap.size w W → (v = true ↔ Lea.Rt ls) → Calls Tryz.prog 33 #[.slice la ln lc] W fun e w' => e = .returned (.bool v) ∧ Below W.heap.size W w') := fun W v hb hv => Lea.right_val (HS.out.ll.below hb) v hv
  have CA : Hid (∀ W v, Below w.heap.size w W → (v = true ↔ Leased ⟨tx, nb, ng, now, ns, ls⟩) → Calls Tryz.prog 34 #[spV ⟨tx, nb, ng, now, ns, ls⟩ ⟨na, nn, nc⟩ ⟨la, ln, lc⟩] W fun e w' => e = .returned (.bool v) ∧ Below W.heap.size W w') := fun W v hb hv => allLeased_val (HS.out.below hb) v hv
  unfold spV at CB CA ⊢
  simp only at hu CB CA ⊢
  clear h HS HN
  cases c0 : Edi.inB 0 tx 300 with
  | false =>
    have hu0 : u = false := by
      rw [Bool.eq_false_iff]; intro e; have h := hu.1 e; rw [Edi.inB_yes (by omega) (by omega)] at c0; cases c0
    subst hu0
    have Htx : Hid _ := c0
    clear hu c0
    go_enter Tryz.func12, Tryz.ntmps12
    go_wp2_with (first
      | (go_at_call_of 29 (Value.int .i64 tx); refine (within_val _ _ _ false _ Htx.out).mono ?_; rintro e w1 ⟨rfl, rfl⟩))
    go_ret
    exact ⟨rfl, bel_al _ _⟩
  | true =>
    have Htx : Hid _ := c0
    have i0 := Edi.inB_iff.1 c0
    clear c0
    cases c1 : Edi.inB 1 nb 9007199254740991 with
    | false =>
      have hu0 : u = false := by
        rw [Bool.eq_false_iff]; intro e; have h := hu.1 e; rw [Edi.inB_yes (by omega) (by omega)] at c1; cases c1
      subst hu0
      have Hnb : Hid _ := c1
      clear hu c1
      go_enter Tryz.func12, Tryz.ntmps12
      go_wp2_with (first
        | (go_at_call_of 29 (Value.int .i64 tx); refine (within_val _ _ _ true _ Htx.out).mono ?_; rintro e w1 ⟨rfl, rfl⟩)
        | (go_at_call_of 29 (Value.int .i64 nb); refine (within_val _ _ _ false _ Hnb.out).mono ?_; rintro e w1 ⟨rfl, rfl⟩))
      go_ret
      exact ⟨rfl, bel_al _ _⟩
    | true =>
      have Hnb : Hid _ := c1
      have i1 := Edi.inB_iff.1 c1
      clear c1
      cases c2 : Edi.inB 1 ng 9007199254740991 with
      | false =>
        have hu0 : u = false := by
          rw [Bool.eq_false_iff]; intro e; have h := hu.1 e; rw [Edi.inB_yes (by omega) (by omega)] at c2; cases c2
        subst hu0
        have Hng : Hid _ := c2
        clear hu c2
        go_enter Tryz.func12, Tryz.ntmps12
        go_wp2_with (first
          | (go_at_call_of 29 (Value.int .i64 tx); refine (within_val _ _ _ true _ Htx.out).mono ?_; rintro e w1 ⟨rfl, rfl⟩)
          | (go_at_call_of 29 (Value.int .i64 nb); refine (within_val _ _ _ true _ Hnb.out).mono ?_; rintro e w1 ⟨rfl, rfl⟩)
          | (go_at_call_of 29 (Value.int .i64 ng); refine (within_val _ _ _ false _ Hng.out).mono ?_; rintro e w1 ⟨rfl, rfl⟩))
        go_ret
        exact ⟨rfl, bel_al _ _⟩
      | true =>
        have Hng : Hid _ := c2
        have i2 := Edi.inB_iff.1 c2
        clear c2
        cases c3 : Edi.inB 0 now 9007199254740981 with
        | false =>
          have hu0 : u = false := by
            rw [Bool.eq_false_iff]; intro e; have h := hu.1 e; rw [Edi.inB_yes (by omega) (by omega)] at c3; cases c3
          subst hu0
          have Hnow : Hid _ := c3
          clear hu c3
          go_enter Tryz.func12, Tryz.ntmps12
          go_wp2_with (first
            | (go_at_call_of 29 (Value.int .i64 tx); refine (within_val _ _ _ true _ Htx.out).mono ?_; rintro e w1 ⟨rfl, rfl⟩)
            | (go_at_call_of 29 (Value.int .i64 nb); refine (within_val _ _ _ true _ Hnb.out).mono ?_; rintro e w1 ⟨rfl, rfl⟩)
            | (go_at_call_of 29 (Value.int .i64 ng); refine (within_val _ _ _ true _ Hng.out).mono ?_; rintro e w1 ⟨rfl, rfl⟩)
            | (go_at_call_of 29 (Value.int .i64 now); refine (within_val _ _ _ false _ Hnow.out).mono ?_; rintro e w1 ⟨rfl, rfl⟩))
          go_ret
          exact ⟨rfl, bel_al _ _⟩
        | true =>
          have Hnow : Hid _ := c3
          have i3 := Edi.inB_iff.1 c3
          clear c3
          by_cases hR : Right ns
          · have H4 : Hid (Right ns) := hR
            have HR : Hid (Right ns) := hR
            by_cases hO : overL ns = []
            · have HY : Hid (overL ns = []) := hO
              have HM : Hid (([] : List ByteArray).length = 0) := rfl
              obtain ⟨m, hm⟩ : ∃ m : Nat, m = 0 := ⟨0, rfl⟩
              rw [← hm] at HM
              have hm0 : ((m : Int) == 0) = true := by simp [hm]
              clear hm
              by_cases hB : BksOk ⟨tx, nb, ng, now, ns, ls⟩
              · have H6 : Hid (BksOk ⟨tx, nb, ng, now, ns, ls⟩) := hB
                by_cases hL : Lea.Rt ls
                · have H7 : Hid (Lea.Rt ls) := hL
                  by_cases hA : Leased ⟨tx, nb, ng, now, ns, ls⟩
                  · have H8 : Hid (Leased ⟨tx, nb, ng, now, ns, ls⟩) := hA
                    have hu1 : u = true := hu.2 ⟨i0, i1, i2, i3, hR, hO, hB, hL, hA⟩
                    subst hu1
                    clear hu i0 i1 i2 i3 hR hO hB hL hA
                    go_enter Tryz.func12, Tryz.ntmps12
                    go_wp2_with (first
                      | (go_at_call_of 29 (Value.int .i64 tx); refine (within_val _ _ _ true _ Htx.out).mono ?_; rintro e w1 ⟨rfl, rfl⟩)
                      | (go_at_call_of 29 (Value.int .i64 nb); refine (within_val _ _ _ true _ Hnb.out).mono ?_; rintro e w1 ⟨rfl, rfl⟩)
                      | (go_at_call_of 29 (Value.int .i64 ng); refine (within_val _ _ _ true _ Hng.out).mono ?_; rintro e w1 ⟨rfl, rfl⟩)
                      | (go_at_call_of 29 (Value.int .i64 now); refine (within_val _ _ _ true _ Hnow.out).mono ?_; rintro e w1 ⟨rfl, rfl⟩)
                      | (go_at_call 30; refine (CR.out _ true (bel_al _ _) ⟨fun _ => H4.out, fun _ => rfl⟩).mono ?_; rintro e w1 ⟨rfl, c1⟩; have B1 : Hid (Below w.heap.size w w1) := bel_tr (bel_al _ _) c1; have y0 := bel_cell c1 (World.cell?_alloc_new w _ _ 0); have y1 := bel_cell c1 (World.cell?_alloc_new w _ _ 1); have y2 := bel_cell c1 (World.cell?_alloc_new w _ _ 2); have y3 := bel_cell c1 (World.cell?_alloc_new w _ _ 3); have y4 := bel_cell c1 (World.cell?_alloc_new w _ _ 4); have y5 := bel_cell c1 (World.cell?_alloc_new w _ _ 5); clear c1)
                      | (go_at_call 31; refine (CO.out _ _ m B1.out HR.out HY.out HM.out).mono ?_; rintro e w2 ⟨⟨a2, c2, rfl⟩, d2⟩; have B2 : Hid (Below w.heap.size w w2) := bel_tr B1.out d2; have z0 := bel_cell d2 y0; have z1 := bel_cell d2 y1; have z2 := bel_cell d2 y2; have z3 := bel_cell d2 y3; have z4 := bel_cell d2 y4; have z5 := bel_cell d2 y5; clear d2)
                      | (go_at_call 32; refine (CB.out _ true B2.out HR.out ⟨fun _ => H6.out, fun _ => rfl⟩).mono ?_; rintro e w3 ⟨rfl, c3⟩; have B3 : Hid (Below w.heap.size w w3) := bel_tr B2.out c3; have x0 := bel_cell c3 z0; have x1 := bel_cell c3 z1; have x2 := bel_cell c3 z2; have x3 := bel_cell c3 z3; have x4 := bel_cell c3 z4; have x5 := bel_cell c3 z5; clear c3)
                      | (go_at_call 33; refine (CL.out _ true B3.out ⟨fun _ => H7.out, fun _ => rfl⟩).mono ?_; rintro e w4 ⟨rfl, c4⟩; have B4 : Hid (Below w.heap.size w w4) := bel_tr B3.out c4; have v0 := bel_cell c4 x0; have v1 := bel_cell c4 x1; have v2 := bel_cell c4 x2; have v3 := bel_cell c4 x3; have v4 := bel_cell c4 x4; have v5 := bel_cell c4 x5; clear c4)
                      | (go_at_call 34; refine (CA.out _ true B4.out ⟨fun _ => H8.out, fun _ => rfl⟩).mono ?_; rintro e w5 ⟨rfl, c5⟩; have B5 : Hid (Below w.heap.size w w5) := bel_tr B4.out c5; clear c5))
                    go_ret
                    exact ⟨rfl, B5.out⟩
                  · have hu0 : u = false := by
                      rw [Bool.eq_false_iff]; intro e; have h := hu.1 e; exact hA h.2.2.2.2.2.2.2.2
                    subst hu0
                    have H8 : Hid (¬ Leased ⟨tx, nb, ng, now, ns, ls⟩) := hA
                    clear hu i0 i1 i2 i3 hR hO hB hL hA
                    go_enter Tryz.func12, Tryz.ntmps12
                    go_wp2_with (first
                      | (go_at_call_of 29 (Value.int .i64 tx); refine (within_val _ _ _ true _ Htx.out).mono ?_; rintro e w1 ⟨rfl, rfl⟩)
                      | (go_at_call_of 29 (Value.int .i64 nb); refine (within_val _ _ _ true _ Hnb.out).mono ?_; rintro e w1 ⟨rfl, rfl⟩)
                      | (go_at_call_of 29 (Value.int .i64 ng); refine (within_val _ _ _ true _ Hng.out).mono ?_; rintro e w1 ⟨rfl, rfl⟩)
                      | (go_at_call_of 29 (Value.int .i64 now); refine (within_val _ _ _ true _ Hnow.out).mono ?_; rintro e w1 ⟨rfl, rfl⟩)
                      | (go_at_call 30; refine (CR.out _ true (bel_al _ _) ⟨fun _ => H4.out, fun _ => rfl⟩).mono ?_; rintro e w1 ⟨rfl, c1⟩; have B1 : Hid (Below w.heap.size w w1) := bel_tr (bel_al _ _) c1; have y0 := bel_cell c1 (World.cell?_alloc_new w _ _ 0); have y1 := bel_cell c1 (World.cell?_alloc_new w _ _ 1); have y2 := bel_cell c1 (World.cell?_alloc_new w _ _ 2); have y3 := bel_cell c1 (World.cell?_alloc_new w _ _ 3); have y4 := bel_cell c1 (World.cell?_alloc_new w _ _ 4); have y5 := bel_cell c1 (World.cell?_alloc_new w _ _ 5); clear c1)
                      | (go_at_call 31; refine (CO.out _ _ m B1.out HR.out HY.out HM.out).mono ?_; rintro e w2 ⟨⟨a2, c2, rfl⟩, d2⟩; have B2 : Hid (Below w.heap.size w w2) := bel_tr B1.out d2; have z0 := bel_cell d2 y0; have z1 := bel_cell d2 y1; have z2 := bel_cell d2 y2; have z3 := bel_cell d2 y3; have z4 := bel_cell d2 y4; have z5 := bel_cell d2 y5; clear d2)
                      | (go_at_call 32; refine (CB.out _ true B2.out HR.out ⟨fun _ => H6.out, fun _ => rfl⟩).mono ?_; rintro e w3 ⟨rfl, c3⟩; have B3 : Hid (Below w.heap.size w w3) := bel_tr B2.out c3; have x0 := bel_cell c3 z0; have x1 := bel_cell c3 z1; have x2 := bel_cell c3 z2; have x3 := bel_cell c3 z3; have x4 := bel_cell c3 z4; have x5 := bel_cell c3 z5; clear c3)
                      | (go_at_call 33; refine (CL.out _ true B3.out ⟨fun _ => H7.out, fun _ => rfl⟩).mono ?_; rintro e w4 ⟨rfl, c4⟩; have B4 : Hid (Below w.heap.size w w4) := bel_tr B3.out c4; have v0 := bel_cell c4 x0; have v1 := bel_cell c4 x1; have v2 := bel_cell c4 x2; have v3 := bel_cell c4 x3; have v4 := bel_cell c4 x4; have v5 := bel_cell c4 x5; clear c4)
                      | (go_at_call 34; refine (CA.out _ false B4.out ⟨fun e => (by cases e), fun e => absurd e H8.out⟩).mono ?_; rintro e w5 ⟨rfl, c5⟩; have B5 : Hid (Below w.heap.size w w5) := bel_tr B4.out c5; clear c5))
                    go_ret
                    exact ⟨rfl, B5.out⟩
                · have hu0 : u = false := by
                    rw [Bool.eq_false_iff]; intro e; have h := hu.1 e; exact hL h.2.2.2.2.2.2.2.1
                  subst hu0
                  have H7 : Hid (¬ Lea.Rt ls) := hL
                  clear hu i0 i1 i2 i3 hR hO hB hL
                  go_enter Tryz.func12, Tryz.ntmps12
                  go_wp2_with (first
                    | (go_at_call_of 29 (Value.int .i64 tx); refine (within_val _ _ _ true _ Htx.out).mono ?_; rintro e w1 ⟨rfl, rfl⟩)
                    | (go_at_call_of 29 (Value.int .i64 nb); refine (within_val _ _ _ true _ Hnb.out).mono ?_; rintro e w1 ⟨rfl, rfl⟩)
                    | (go_at_call_of 29 (Value.int .i64 ng); refine (within_val _ _ _ true _ Hng.out).mono ?_; rintro e w1 ⟨rfl, rfl⟩)
                    | (go_at_call_of 29 (Value.int .i64 now); refine (within_val _ _ _ true _ Hnow.out).mono ?_; rintro e w1 ⟨rfl, rfl⟩)
                    | (go_at_call 30; refine (CR.out _ true (bel_al _ _) ⟨fun _ => H4.out, fun _ => rfl⟩).mono ?_; rintro e w1 ⟨rfl, c1⟩; have B1 : Hid (Below w.heap.size w w1) := bel_tr (bel_al _ _) c1; have y0 := bel_cell c1 (World.cell?_alloc_new w _ _ 0); have y1 := bel_cell c1 (World.cell?_alloc_new w _ _ 1); have y2 := bel_cell c1 (World.cell?_alloc_new w _ _ 2); have y3 := bel_cell c1 (World.cell?_alloc_new w _ _ 3); have y4 := bel_cell c1 (World.cell?_alloc_new w _ _ 4); have y5 := bel_cell c1 (World.cell?_alloc_new w _ _ 5); clear c1)
                    | (go_at_call 31; refine (CO.out _ _ m B1.out HR.out HY.out HM.out).mono ?_; rintro e w2 ⟨⟨a2, c2, rfl⟩, d2⟩; have B2 : Hid (Below w.heap.size w w2) := bel_tr B1.out d2; have z0 := bel_cell d2 y0; have z1 := bel_cell d2 y1; have z2 := bel_cell d2 y2; have z3 := bel_cell d2 y3; have z4 := bel_cell d2 y4; have z5 := bel_cell d2 y5; clear d2)
                    | (go_at_call 32; refine (CB.out _ true B2.out HR.out ⟨fun _ => H6.out, fun _ => rfl⟩).mono ?_; rintro e w3 ⟨rfl, c3⟩; have B3 : Hid (Below w.heap.size w w3) := bel_tr B2.out c3; have x0 := bel_cell c3 z0; have x1 := bel_cell c3 z1; have x2 := bel_cell c3 z2; have x3 := bel_cell c3 z3; have x4 := bel_cell c3 z4; have x5 := bel_cell c3 z5; clear c3)
                    | (go_at_call 33; refine (CL.out _ false B3.out ⟨fun e => (by cases e), fun e => absurd e H7.out⟩).mono ?_; rintro e w4 ⟨rfl, c4⟩; have B4 : Hid (Below w.heap.size w w4) := bel_tr B3.out c4; have v0 := bel_cell c4 x0; have v1 := bel_cell c4 x1; have v2 := bel_cell c4 x2; have v3 := bel_cell c4 x3; have v4 := bel_cell c4 x4; have v5 := bel_cell c4 x5; clear c4))
                  go_ret
                  exact ⟨rfl, B4.out⟩
              · have hu0 : u = false := by
                  rw [Bool.eq_false_iff]; intro e; have h := hu.1 e; exact hB h.2.2.2.2.2.2.1
                subst hu0
                have H6 : Hid (¬ BksOk ⟨tx, nb, ng, now, ns, ls⟩) := hB
                clear hu i0 i1 i2 i3 hR hO hB
                go_enter Tryz.func12, Tryz.ntmps12
                go_wp2_with (first
                  | (go_at_call_of 29 (Value.int .i64 tx); refine (within_val _ _ _ true _ Htx.out).mono ?_; rintro e w1 ⟨rfl, rfl⟩)
                  | (go_at_call_of 29 (Value.int .i64 nb); refine (within_val _ _ _ true _ Hnb.out).mono ?_; rintro e w1 ⟨rfl, rfl⟩)
                  | (go_at_call_of 29 (Value.int .i64 ng); refine (within_val _ _ _ true _ Hng.out).mono ?_; rintro e w1 ⟨rfl, rfl⟩)
                  | (go_at_call_of 29 (Value.int .i64 now); refine (within_val _ _ _ true _ Hnow.out).mono ?_; rintro e w1 ⟨rfl, rfl⟩)
                  | (go_at_call 30; refine (CR.out _ true (bel_al _ _) ⟨fun _ => H4.out, fun _ => rfl⟩).mono ?_; rintro e w1 ⟨rfl, c1⟩; have B1 : Hid (Below w.heap.size w w1) := bel_tr (bel_al _ _) c1; have y0 := bel_cell c1 (World.cell?_alloc_new w _ _ 0); have y1 := bel_cell c1 (World.cell?_alloc_new w _ _ 1); have y2 := bel_cell c1 (World.cell?_alloc_new w _ _ 2); have y3 := bel_cell c1 (World.cell?_alloc_new w _ _ 3); have y4 := bel_cell c1 (World.cell?_alloc_new w _ _ 4); have y5 := bel_cell c1 (World.cell?_alloc_new w _ _ 5); clear c1)
                  | (go_at_call 31; refine (CO.out _ _ m B1.out HR.out HY.out HM.out).mono ?_; rintro e w2 ⟨⟨a2, c2, rfl⟩, d2⟩; have B2 : Hid (Below w.heap.size w w2) := bel_tr B1.out d2; have z0 := bel_cell d2 y0; have z1 := bel_cell d2 y1; have z2 := bel_cell d2 y2; have z3 := bel_cell d2 y3; have z4 := bel_cell d2 y4; have z5 := bel_cell d2 y5; clear d2)
                  | (go_at_call 32; refine (CB.out _ false B2.out HR.out ⟨fun e => (by cases e), fun e => absurd e H6.out⟩).mono ?_; rintro e w3 ⟨rfl, c3⟩; have B3 : Hid (Below w.heap.size w w3) := bel_tr B2.out c3; have x0 := bel_cell c3 z0; have x1 := bel_cell c3 z1; have x2 := bel_cell c3 z2; have x3 := bel_cell c3 z3; have x4 := bel_cell c3 z4; have x5 := bel_cell c3 z5; clear c3))
                go_ret
                exact ⟨rfl, B3.out⟩
            · have hu0 : u = false := by
                rw [Bool.eq_false_iff]; intro e; have h := hu.1 e; exact hO h.2.2.2.2.2.1
              subst hu0
              obtain ⟨ys, hy⟩ : ∃ ys, overL ns = ys := ⟨_, rfl⟩
              obtain ⟨m, hm⟩ : ∃ m, ys.length = m := ⟨_, rfl⟩
              have HY : Hid _ := hy
              have HM : Hid _ := hm
              have hm0 : ((m : Int) == 0) = false := by
                rw [beq_eq_false_iff_ne]; intro e; exact hO (by rw [hy]; exact List.length_eq_zero_iff.1 (by omega))
              clear hy hm
              clear hu i0 i1 i2 i3 hR hO
              go_enter Tryz.func12, Tryz.ntmps12
              go_wp2_with (first
                | (go_at_call_of 29 (Value.int .i64 tx); refine (within_val _ _ _ true _ Htx.out).mono ?_; rintro e w1 ⟨rfl, rfl⟩)
                | (go_at_call_of 29 (Value.int .i64 nb); refine (within_val _ _ _ true _ Hnb.out).mono ?_; rintro e w1 ⟨rfl, rfl⟩)
                | (go_at_call_of 29 (Value.int .i64 ng); refine (within_val _ _ _ true _ Hng.out).mono ?_; rintro e w1 ⟨rfl, rfl⟩)
                | (go_at_call_of 29 (Value.int .i64 now); refine (within_val _ _ _ true _ Hnow.out).mono ?_; rintro e w1 ⟨rfl, rfl⟩)
                | (go_at_call 30; refine (CR.out _ true (bel_al _ _) ⟨fun _ => H4.out, fun _ => rfl⟩).mono ?_; rintro e w1 ⟨rfl, c1⟩; have B1 : Hid (Below w.heap.size w w1) := bel_tr (bel_al _ _) c1; have y0 := bel_cell c1 (World.cell?_alloc_new w _ _ 0); have y1 := bel_cell c1 (World.cell?_alloc_new w _ _ 1); have y2 := bel_cell c1 (World.cell?_alloc_new w _ _ 2); have y3 := bel_cell c1 (World.cell?_alloc_new w _ _ 3); have y4 := bel_cell c1 (World.cell?_alloc_new w _ _ 4); have y5 := bel_cell c1 (World.cell?_alloc_new w _ _ 5); clear c1)
                | (go_at_call 31; refine (CO.out _ _ m B1.out HR.out HY.out HM.out).mono ?_; rintro e w2 ⟨⟨a2, c2, rfl⟩, d2⟩; have B2 : Hid (Below w.heap.size w w2) := bel_tr B1.out d2; have z0 := bel_cell d2 y0; have z1 := bel_cell d2 y1; have z2 := bel_cell d2 y2; have z3 := bel_cell d2 y3; have z4 := bel_cell d2 y4; have z5 := bel_cell d2 y5; clear d2))
              go_ret
              exact ⟨rfl, B2.out⟩
          · have hu0 : u = false := by
              rw [Bool.eq_false_iff]; intro e; have h := hu.1 e; exact hR h.2.2.2.2.1
            subst hu0
            have H4 : Hid (¬ Right ns) := hR
            clear hu i0 i1 i2 i3 hR
            go_enter Tryz.func12, Tryz.ntmps12
            go_wp2_with (first
              | (go_at_call_of 29 (Value.int .i64 tx); refine (within_val _ _ _ true _ Htx.out).mono ?_; rintro e w1 ⟨rfl, rfl⟩)
              | (go_at_call_of 29 (Value.int .i64 nb); refine (within_val _ _ _ true _ Hnb.out).mono ?_; rintro e w1 ⟨rfl, rfl⟩)
              | (go_at_call_of 29 (Value.int .i64 ng); refine (within_val _ _ _ true _ Hng.out).mono ?_; rintro e w1 ⟨rfl, rfl⟩)
              | (go_at_call_of 29 (Value.int .i64 now); refine (within_val _ _ _ true _ Hnow.out).mono ?_; rintro e w1 ⟨rfl, rfl⟩)
              | (go_at_call 30; refine (CR.out _ false (bel_al _ _) ⟨fun e => (by cases e), fun e => absurd e H4.out⟩).mono ?_; rintro e w1 ⟨rfl, c1⟩; have B1 : Hid (Below w.heap.size w w1) := bel_tr (bel_al _ _) c1; have y0 := bel_cell c1 (World.cell?_alloc_new w _ _ 0); have y1 := bel_cell c1 (World.cell?_alloc_new w _ _ 1); have y2 := bel_cell c1 (World.cell?_alloc_new w _ _ 2); have y3 := bel_cell c1 (World.cell?_alloc_new w _ _ 3); have y4 := bel_cell c1 (World.cell?_alloc_new w _ _ 4); have y5 := bel_cell c1 (World.cell?_alloc_new w _ _ 5); clear c1))
            go_ret
            exact ⟨rfl, B1.out⟩

end Go.Proofs.YtigomhilcnnjdaaGreat.Spa

/- The contracts of space.nodeAt, fileAt, written. -/
namespace Go.Proofs.YtigomhilcnnjdaaGreat.Spa
open Go.RowKit Go.Proofs.YtigomhilcnnjdaaGreat
open Go.Proofs.YtigomhilcnnjdaaGreat.Lea (LS Ls findX putL renX LL LO LsR)
open Go.Proofs.YtigomhilcnnjdaaGreat.Edi (Ed Nm EdAt edV)

/-- The cells of a node that lies at the i-th place of a block. -/
structure NdAt (w : World) (b i : Nat) (x : NR) : Prop where
  c0 : w.cell? ⟨b, i * 5, none⟩ = some (.string x.1.path)
  c1 : w.cell? ⟨b, i * 5 + 1, none⟩ = some (.bool x.1.dir)
  c2 : w.cell? ⟨b, i * 5 + 2, none⟩ = some (.int .i64 x.1.quota)
  c3 : w.cell? ⟨b, i * 5 + 3, none⟩ = some (.slice x.2.a x.2.n x.2.c)
  c4 : w.cell? ⟨b, i * 5 + 4, none⟩ = some (.int .i64 x.1.wr)
theorem NdAt.below {w w' : World} {b i : Nat} {x : NR} (h : NdAt w b i x) (hb : Below w.heap.size w w') : NdAt w' b i x :=
  ⟨bel_cell hb h.c0, bel_cell hb h.c1, bel_cell hb h.c2, bel_cell hb h.c3, bel_cell hb h.c4⟩

/-- Where the nodes of a space lie. -/
structure Lies (w : World) (S gb n c : Nat) (ps : List NR) : Prop where
  c4 : w.cell? ⟨S, 4, none⟩ = some (.slice (some ⟨gb, 0, none⟩) n c)
  nds : Nds w (some ⟨gb, 0, none⟩) gb 0 ps
  len : ps.length = n
theorem Lies.below {w w' : World} {S gb n c : Nat} {ps : List NR} (h : Lies w S gb n c ps) (hb : Below w.heap.size w w') : Lies w' S gb n c ps := ⟨bel_cell hb h.c4, h.nds.below hb, h.len⟩
theorem Lies.nl {w : World} {S gb n c : Nat} {ps : List NR} (h : Lies w S gb n c ps) : NL w (some ⟨gb, 0, none⟩) n (ps.map (·.1)) := ⟨gb, 0, ps, rfl, by rw [List.length_map]; exact h.len, h.nds⟩
theorem Lies.at {w : World} {S gb n c : Nat} {ps : List NR} (h : Lies w S gb n c ps) {i : Nat} (hi : i < ps.length) : NdAt w gb i ps[i] := by
  obtain ⟨e0, e1, e2, e3, e4⟩ := h.nds.at hi
  rw [Nat.zero_add] at e0 e1 e2 e3 e4
  exact ⟨e0, e1, e2, e3, e4⟩
theorem is_at {ps : List NR} {p : ByteArray} {i : Nat} {x : Nd} (hi : Is (ps.map (·.1)) p i x) : ∃ h : i < ps.length, ps[i].1 = x := by
  have h1 := hi.lt
  rw [List.length_map] at h1
  have h2 := hi.get
  simp only [List.getElem_map] at h2
  exact ⟨h1, h2⟩

end Go.Proofs.YtigomhilcnnjdaaGreat.Spa

/- The contracts of slices.Clone at nodes and at leases, space.copied. -/
namespace Go.Proofs.YtigomhilcnnjdaaGreat.Spa
open Go.RowKit Go.Proofs.YtigomhilcnnjdaaGreat
open Go.Proofs.YtigomhilcnnjdaaGreat.Lea (LS Ls findX putL renX LL LO LsR lsC wideL)

theorem src_nds {w : World} {b off n c : Nat} {ps : List NR} (h : Nds w (some ⟨b, off, none⟩) b off ps) (hn : ps.length = n) : Src Tryz.prog 5 23 (.slice (some ⟨b, off, none⟩) n c) n (rowC ndC ps) w := by
  refine Src.ofSlice w Tryz.underlying23 ⟨b, off, none⟩ n c (rowC ndC ps) (by rw [rowC_len wideX, hn]) (fun j u hu => ?_) (rowC_oneCell wideX ps)
  rw [Addr.add_lit]
  have hj : j < (rowC ndC ps).length := (List.getElem?_eq_some_iff.1 hu).1
  rw [rowC_len wideX] at hj
  obtain ⟨i, r, rfl, hr⟩ : ∃ i r, j = i * 5 + r ∧ r < 5 := ⟨j / 5, j % 5, by omega, by omega⟩
  have hi : i < ps.length := by omega
  rw [rowC_at wideX ps i hi r hr] at hu
  rw [← Nat.add_assoc]
  exact h.cell i hi r u hu


theorem lsRow : ∃ i, Tryz.prog.info? 48 = some i ∧ i.zero = some (.agg #[.int .i64 0, .int .i64 0]) ∧ i.size = 2 ∧ i.bytes = 16 :=
  info_parts3 (show (Tryz.prog.info? 48).map (fun i => (i.zero, i.size, i.bytes)) = some (some (.agg #[.int .i64 0, .int .i64 0]), 2, 16) by kernel_rfl)
theorem nilNds (w : World) (a : Option Addr) (n c : Nat) : (binOp .eql 23 (.slice a n c) (.slice none 0 0)).run Tryz.prog w = .ok (.bool a.isNone) w := Lib.run_eql_slice_nil w 23 55 a n c 0 0 Tryz.underlying23
theorem nilLss (w : World) (a : Option Addr) (n c : Nat) : (binOp .eql 24 (.slice a n c) (.slice none 0 0)).run Tryz.prog w = .ok (.bool a.isNone) w := Lib.run_eql_slice_nil w 24 48 a n c 0 0 Tryz.underlying24

/-- A list of nodes whose row is the call's own; their blocks lie where they lay. -/
structure CloneN (base n : Nat) (ps : List NR) (e : Ending) (w' : World) : Prop where
  ex : ∃ a c g, e = .returned (.slice a n c) ∧ Cel (fun k => base ≤ k) w' 5 (.slice a n c) n (rowC ndC ps) g
structure CloneL (base n : Nat) (xs : LS) (e : Ending) (w' : World) : Prop where
  ex : ∃ a c g, e = .returned (.slice a n c) ∧ LO base w' a n c xs g

/-! ### a node is written into its place -/
theorem Cel.setNd {O : Nat → Prop} {w : World} {a : Option Addr} {n c g : Nat} {qs : List NR} (h : Cel O w 5 (.slice a n c) n (rowC ndC qs) (some g)) (hn : qs.length = n) (i : Nat) (hi : i < n) (y : NR) :
    Cel O (w.setCells g (i * 5) (ndC y)) 5 (.slice a n c) n (rowC ndC (qs.set i y)) (some g) := by
  have hc := h.cap2.1
  have h1 : (i + 1) * 5 ≤ c * 5 := Nat.mul_le_mul_right _ (by omega)
  have hl : (rowC ndC (qs.set i y)).length = n * 5 := by rw [rowC_len wideX, List.length_set, hn]
  have hw5 : (ndC y).length = 5 := rfl
  refine h.setCells (i * 5) (ndC y) (by rw [hw5]; omega) n _ hc hl (fun q hq => ?_)
  rw [← List.getElem?_eq_getElem hq]
  rw [hl] at hq
  have hd : q / 5 < n := by omega
  have e := rowC_at wideX (qs.set i y) (q / 5) (by rw [List.length_set]; omega) (q % 5) (by omega)
  have e' := rowC_at wideX qs (q / 5) (by omega) (q % 5) (by omega)
  have e2 : q / 5 * 5 + q % 5 = q := by omega
  rw [e2] at e e'
  rw [e, e', hw5]
  by_cases hqi : q / 5 = i
  · subst hqi
    rw [List.getElem_set_self, if_pos (by omega), show q - q / 5 * 5 = q % 5 by omega]
  · rw [if_neg (by omega), List.getElem_set_ne (fun e => hqi e.symm)]

end Go.Proofs.YtigomhilcnnjdaaGreat.Spa

/- The contract of space.copied. -/
namespace Go.Proofs.YtigomhilcnnjdaaGreat.Spa
open Go.RowKit Go.Proofs.YtigomhilcnnjdaaGreat
open Go.Proofs.YtigomhilcnnjdaaGreat.Lea (LS Ls findX putL renX LL LO LsR lsC wideL)

def ApartB (x y : NR) : Prop := ∀ k, x.2.blk = some k → y.2.blk ≠ some k
/-- What a space of the call's own is made of: nodes, each with blocks of its own, and leases. -/
structure Own (base : Nat) (w : World) (s : Sp) (N L : RS) (ps : List NR) (g gl : Option Nat) : Prop where
  lot : Lot base w N.a N.n N.c ps g
  map : ps.map (·.1) = s.ns
  lo : LO base w L.a L.n L.c s.ls gl
  sep : ps.Pairwise ApartB
  gl1 : ∀ k, g = some k → gl ≠ some k
  gl2 : ∀ x ∈ ps, ∀ k, x.2.blk = some k → gl ≠ some k
theorem Own.below {base : Nat} {w w' : World} {s : Sp} {N L : RS} {ps : List NR} {g gl : Option Nat} (h : Own base w s N L ps g gl) (hb : Below w.heap.size w w') : Own base w' s N L ps g gl :=
  ⟨h.lot.below hb, h.map, h.lo.below hb, h.sep, h.gl1, h.gl2⟩
theorem Own.mono {b1 b2 : Nat} {w : World} {s : Sp} {N L : RS} {ps : List NR} {g gl : Option Nat} (h : Own b1 w s N L ps g gl) (hb : b2 ≤ b1) : Own b2 w s N L ps g gl :=
  ⟨h.lot.mono hb, h.map, h.lo.mono hb, h.sep, h.gl1, h.gl2⟩

/-- Sizes that can be copied. -/
structure Sz (N L : RS) (ps : List NR) : Prop where
  n : N.n * 64 ≤ 140737488355328
  l : L.n * 16 ≤ 140737488355328
  b : ∀ x ∈ ps, x.2.n * 24 ≤ 140737488355328

/-- A slice of blocks has its room to itself. -/
structure Rm (w : World) (s : RS) : Prop where
  z : s.n = 0 → s.c = 0
  le : s.n ≤ s.c
  lid : s.c ≤ maxLen
  live : 0 < s.n → ∃ b, s.a = some ⟨b, 0, none⟩ ∧ ∀ j, j < s.c * 3 → (w.cell? ⟨b, j, none⟩).isSome = true ∧ w.frozen? ⟨b, j, none⟩ = false
theorem Rm.keep {w w' : World} {s : RS} (h : Rm w s) (hb : ∀ k, s.blk = some k → w'.heap[k]? = w.heap[k]?) : Rm w' s := by
  refine ⟨h.z, h.le, h.lid, fun hp => ?_⟩
  obtain ⟨b, ha, hc⟩ := h.live hp
  have e : w'.heap[b]? = w.heap[b]? := hb b (by unfold RS.blk; rw [if_neg (by omega), ha]; rfl)
  exact ⟨b, ha, fun j hj => ⟨by rw [World.cell?_of_block (a := ⟨b, j, none⟩) e]; exact (hc j hj).1, (World.frozen?_of_block (a := ⟨b, j, none⟩) e).trans (hc j hj).2⟩⟩
theorem Rm.lt {w : World} {s : RS} (h : Rm w s) : ∀ k, s.blk = some k → k < w.heap.size := by
  intro k hk
  unfold RS.blk at hk
  split at hk
  · cases hk
  · rename_i hn
    obtain ⟨b, ha, hc⟩ := h.live (by omega)
    rw [ha] at hk
    have e : b = k := by simpa using hk
    subst e
    obtain ⟨u, hu⟩ := Option.isSome_iff_exists.1 (hc 0 (by have := h.le; omega)).1
    exact World.block_lt_of_cell? _ _ hu
theorem Rm.below {w w' : World} {s : RS} (h : Rm w s) (hb : Below w.heap.size w w') : Rm w' s := h.keep fun k hk => hb.block k (h.lt k hk)
theorem Rm.set {w : World} {s : RS} (h : Rm w s) (a : Addr) (v : Value) : Rm (w.setCell a v) s := by
  refine ⟨h.z, h.le, h.lid, fun hp => ?_⟩
  obtain ⟨b, ha, hc⟩ := h.live hp
  refine ⟨b, ha, fun j hj => ⟨?_, by rw [World.frozen?_setCell]; exact (hc j hj).2⟩⟩
  obtain ⟨u, hu⟩ := Option.isSome_iff_exists.1 (hc j hj).1
  by_cases e : a = ⟨b, j, none⟩
  · subst e
    rw [World.cell?_setCell_same _ _ _ hu]; rfl
  · rw [World.cell?_setCell_other _ _ _ _ e, hu]; rfl

structure Clone2R (base n : Nat) (bs : List Blk) (e : Ending) (w' : World) : Prop where
  ex : ∃ a c g, e = .returned (.slice a n c) ∧ Cel (fun k => base ≤ k) w' 3 (.slice a n c) n (rowC blkC bs) g ∧ (n = 0 → c = 0)
structure Copy2R (base : Nat) (x : Nd) (e : Ending) (w' : World) : Prop where
  ex : ∃ s, e = .returned (ndV (x, s)) ∧ Free base w' (x, s) ∧ Rm w' s

theorem rm_of_cel {base : Nat} {w : World} {a : Option Addr} {n c : Nat} {bs : List Blk} {g : Option Nat} (h : Cel (fun k => base ≤ k) w 3 (.slice a n c) n (rowC blkC bs) g) (h0 : n = 0 → c = 0) : Rm w ⟨a, n, c⟩ := by
  obtain ⟨hc1, hc2, _⟩ := h.cap2
  refine ⟨h0, hc1, hc2, fun hp => ?_⟩
  obtain ⟨b, h1, h2⟩ := h.at2 hp
  subst h2
  exact ⟨b, h1, fun j hj => h.live j hj⟩

structure CopiedR (base : Nat) (s : Sp) (e : Ending) (w' : World) : Prop where
  ex : ∃ N L ps g gl, e = .returned (spV s N L) ∧ Own base w' s N L ps g gl ∧ (∀ x ∈ ps, Rm w' x.2) ∧ (N.a = none → N.c = 0)

/-- What lies behind base is left alone while what lies ahead of it is written. -/
theorem Own.out {base : Nat} {O : Nat → Prop} {w w' : World} {s : Sp} {N L : RS} {ps : List NR} {g gl : Option Nat} (h : Own base w s N L ps g gl) (hs : Stay O w w') (hO : ∀ k, O k → k < base) : Own base w' s N L ps g gl := by
  have hg : ∀ k, g = some k → k < w.heap.size ∧ base ≤ k := fun k hk => by have := h.lot.cel; rw [hk] at this; exact this.lt
  refine ⟨h.lot.stay hs.size (fun k hk => hs.block k (hg k hk).1 (fun e => ?_)) (fun x hx k hk => hs.block k ((h.lot.ok x hx).ok.bs.lt k hk) (fun e => ?_)), h.map, ?_, h.sep, h.gl1, h.gl2⟩
  · have := hO k e; have := (hg k hk).2; omega
  · have := hO k e; have := (h.lot.ok x hx).blk_ge k hk; omega
  · have ho := h.lo.own
    exact ⟨h.lo.cel.stay hs.size (fun k hk => hs.block k (ho k hk).1 (fun e => by have := hO k e; have := (ho k hk).2; omega)) (fun _ e => e), h.lo.len⟩

/-- The world behind the storing of a whole space. -/
def put6 (w : World) (b : Nat) (s : Sp) (N L : RS) : World :=
  (((((w.setCell ⟨b, 0, none⟩ (.int .i64 s.tx)).setCell ⟨b, 1, none⟩ (.int .i64 s.nb)).setCell ⟨b, 2, none⟩ (.int .i64 s.ng)).setCell ⟨b, 3, none⟩ (.int .i64 s.now)).setCell ⟨b, 4, none⟩ (.slice N.a N.n N.c)).setCell ⟨b, 5, none⟩ (.slice L.a L.n L.c)
/-- The cells of a space. -/
structure SpC (w : World) (b : Nat) (s : Sp) (N L : RS) : Prop where
  c0 : w.cell? ⟨b, 0, none⟩ = some (.int .i64 s.tx)
  c1 : w.cell? ⟨b, 1, none⟩ = some (.int .i64 s.nb)
  c2 : w.cell? ⟨b, 2, none⟩ = some (.int .i64 s.ng)
  c3 : w.cell? ⟨b, 3, none⟩ = some (.int .i64 s.now)
  c4 : w.cell? ⟨b, 4, none⟩ = some (.slice N.a N.n N.c)
  c5 : w.cell? ⟨b, 5, none⟩ = some (.slice L.a L.n L.c)
  fr : ∀ j, w.frozen? ⟨b, j, none⟩ = false
theorem SpC.below {w w' : World} {b : Nat} {s : Sp} {N L : RS} (h : SpC w b s N L) (hb : Below w.heap.size w w') : SpC w' b s N L :=
  ⟨bel_cell hb h.c0, bel_cell hb h.c1, bel_cell hb h.c2, bel_cell hb h.c3, bel_cell hb h.c4, bel_cell hb h.c5, fun j => (World.frozen?_of_block (a := ⟨b, j, none⟩) (hb.block b (World.block_lt_of_cell? _ _ h.c0))).trans (h.fr j)⟩
theorem SpC.keep {O : Nat → Prop} {w w' : World} {b : Nat} {s : Sp} {N L : RS} (h : SpC w b s N L) (hs : Stay O w w') (hO : ¬ O b) : SpC w' b s N L := by
  have hb := hs.block b (World.block_lt_of_cell? _ _ h.c0) hO
  exact ⟨(World.cell?_of_block (a := ⟨b, 0, none⟩) hb).trans h.c0, (World.cell?_of_block (a := ⟨b, 1, none⟩) hb).trans h.c1, (World.cell?_of_block (a := ⟨b, 2, none⟩) hb).trans h.c2, (World.cell?_of_block (a := ⟨b, 3, none⟩) hb).trans h.c3, (World.cell?_of_block (a := ⟨b, 4, none⟩) hb).trans h.c4, (World.cell?_of_block (a := ⟨b, 5, none⟩) hb).trans h.c5, fun j => (World.frozen?_of_block (a := ⟨b, j, none⟩) hb).trans (h.fr j)⟩
theorem SpC.new (w : World) (t : TypeId) (s : Sp) (N L : RS) : SpC (w.alloc (.cells #[.int .i64 s.tx, .int .i64 s.nb, .int .i64 s.ng, .int .i64 s.now, .slice N.a N.n N.c, .slice L.a L.n L.c] t)) w.heap.size s N L :=
  ⟨World.cell?_alloc_new w _ t 0, World.cell?_alloc_new w _ t 1, World.cell?_alloc_new w _ t 2, World.cell?_alloc_new w _ t 3, World.cell?_alloc_new w _ t 4, World.cell?_alloc_new w _ t 5, fun j => World.frozen?_alloc_new w _ t j⟩
theorem same_cell {w : World} {a : Addr} {v u : Value} (h : w.cell? a = some u) : (w.setCell a v).cell? a = some v := World.cell?_setCell_same _ _ _ h
theorem put6_at {w : World} {b : Nat} {s0 : Sp} {N0 L0 : RS} (h : SpC w b s0 N0 L0) (s : Sp) (N L : RS) : SpC (put6 w b s N L) b s N L ∧ Stay (fun k => k = b) w (put6 w b s N L) := by
  constructor
  · unfold put6
    refine ⟨?_, ?_, ?_, ?_, ?_, ?_, fun j => by simp only [World.frozen?_setCell]; exact h.fr j⟩
    · rw [other_cell _ _ _ _ _ (by omega), other_cell _ _ _ _ _ (by omega), other_cell _ _ _ _ _ (by omega), other_cell _ _ _ _ _ (by omega), other_cell _ _ _ _ _ (by omega)]
      exact same_cell h.c0
    · rw [other_cell _ _ _ _ _ (by omega), other_cell _ _ _ _ _ (by omega), other_cell _ _ _ _ _ (by omega), other_cell _ _ _ _ _ (by omega)]
      refine same_cell (u := .int .i64 s0.nb) ?_
      rw [other_cell _ _ _ _ _ (by omega)]
      exact h.c1
    · rw [other_cell _ _ _ _ _ (by omega), other_cell _ _ _ _ _ (by omega), other_cell _ _ _ _ _ (by omega)]
      refine same_cell (u := .int .i64 s0.ng) ?_
      rw [other_cell _ _ _ _ _ (by omega), other_cell _ _ _ _ _ (by omega)]
      exact h.c2
    · rw [other_cell _ _ _ _ _ (by omega), other_cell _ _ _ _ _ (by omega)]
      refine same_cell (u := .int .i64 s0.now) ?_
      rw [other_cell _ _ _ _ _ (by omega), other_cell _ _ _ _ _ (by omega), other_cell _ _ _ _ _ (by omega)]
      exact h.c3
    · rw [other_cell _ _ _ _ _ (by omega)]
      refine same_cell (u := .slice N0.a N0.n N0.c) ?_
      rw [other_cell _ _ _ _ _ (by omega), other_cell _ _ _ _ _ (by omega), other_cell _ _ _ _ _ (by omega), other_cell _ _ _ _ _ (by omega)]
      exact h.c4
    · refine same_cell (u := .slice L0.a L0.n L0.c) ?_
      rw [other_cell _ _ _ _ _ (by omega), other_cell _ _ _ _ _ (by omega), other_cell _ _ _ _ _ (by omega), other_cell _ _ _ _ _ (by omega), other_cell _ _ _ _ _ (by omega)]
      exact h.c5
  · unfold put6
    exact (((((Stay.setCell (O := fun k => k = b) w _ _ rfl).then_same (Stay.setCell _ _ _ rfl)).then_same (Stay.setCell _ _ _ rfl)).then_same (Stay.setCell _ _ _ rfl)).then_same (Stay.setCell _ _ _ rfl)).then_same (Stay.setCell _ _ _ rfl)

/-- Halfway: the first i nodes are copied. -/
structure Half (base : Nat) (w : World) (a : Option Addr) (n c : Nat) (ps qs : List NR) (g : Option Nat) (i : Nat) : Prop where
  cel : Cel (fun k => base ≤ k) w 5 (.slice a n c) n (rowC ndC (qs ++ ps.drop i)) g
  len : qs.length = i
  map : qs.map (·.1) = (ps.take i).map (·.1)
  free : ∀ x ∈ qs, Free base w x
  ap : ∀ x ∈ qs, ∀ k, g = some k → x.2.blk ≠ some k
  sep : qs.Pairwise ApartB
  rm : ∀ x ∈ qs, Rm w x.2

theorem Half.next {base : Nat} {wr w1 : World} {gb n c : Nat} {ps qs : List NR} {i : Nat} (h : Half base wr (some ⟨gb, 0, none⟩) n c ps qs (some gb) i) (hp : ps.length = n) (hi : i < n) (hB : base ≤ wr.heap.size) (b1 : Below wr.heap.size wr w1) {s : RS} (hF : Free wr.heap.size w1 ((ps[i]'(by omega)).1, s)) (hRm : Rm w1 s) :
    Half base (w1.setCells gb (i * 5) (ndC ((ps[i]'(by omega)).1, s))) (some ⟨gb, 0, none⟩) n c ps (qs ++ [((ps[i]'(by omega)).1, s)]) (some gb) (i + 1) ∧ Below base wr (w1.setCells gb (i * 5) (ndC ((ps[i]'(by omega)).1, s))) := by
  have hgb := h.cel.lt
  have hst : Stay (fun k => k = gb) w1 (w1.setCells gb (i * 5) (ndC ((ps[i]'(by omega)).1, s))) := Stay.setCells gb _ _ w1 rfl
  have hlt : ∀ k, s.blk = some k → wr.heap.size ≤ k := fun k hk => hF.blk_ge k hk
  refine ⟨⟨?_, by rw [List.length_append, h.len]; rfl, ?_, fun x hx => ?_, fun x hx k hk => ?_, ?_, fun x hx => ?_⟩, ?_⟩
  · have hc := Cel.setNd (h.cel.below b1) (by rw [List.length_append, h.len, List.length_drop]; omega) i hi ((ps[i]'(by omega)).1, s)
    have e : (qs ++ ps.drop i).set i ((ps[i]'(by omega)).1, s) = qs ++ [((ps[i]'(by omega)).1, s)] ++ ps.drop (i + 1) := by
      rw [List.set_append_right _ _ (by rw [h.len]; omega), h.len, Nat.sub_self, List.drop_eq_getElem_cons (by omega), List.set_cons_zero]
      simp
    rw [e] at hc
    exact hc
  · rw [List.map_append, h.map, List.take_succ_eq_append_getElem (by omega), List.map_append]; rfl
  · rcases List.mem_append.1 hx with hx | hx
    · have hx1 := (h.free x hx).below b1
      refine Stay.free hx1 hst (fun k hk e => ?_)
      subst e
      exact h.ap x hx k rfl hk
    · rw [List.mem_singleton.1 hx]
      refine Stay.free (hF.mono hB) hst (fun k hk e => ?_)
      have := hlt k hk
      have := hgb.1
      omega
  · cases hk
    rcases List.mem_append.1 hx with hx | hx
    · exact h.ap x hx gb rfl
    · rw [List.mem_singleton.1 hx]
      intro e
      have := hlt gb e
      have := hgb.1
      omega
  · rw [List.pairwise_append]
    refine ⟨h.sep, List.pairwise_singleton _ _, fun x hx y hy k hk e => ?_⟩
    rw [List.mem_singleton.1 hy] at e
    have := hlt k e
    have := (h.free x hx).ok.bs.lt k hk
    omega
  · rcases List.mem_append.1 hx with hx | hx
    · refine ((h.rm x hx).below b1).keep fun k hk => hst.block k (((h.rm x hx).below b1).lt k hk) (fun e => ?_)
      subst e
      exact h.ap x hx k rfl hk
    · rw [List.mem_singleton.1 hx]
      refine hRm.keep fun k hk => hst.block k (hRm.lt k hk) (fun e => ?_)
      have := hlt k hk
      have := hgb.1
      omega
  · exact (b1.mono hB).trans (hst.below (Nat.le_trans hB b1.size) (fun k hk => by subst hk; exact hgb.2))

end Go.Proofs.YtigomhilcnnjdaaGreat.Spa

/- The contract of space.setLengths. -/
namespace Go.Proofs.YtigomhilcnnjdaaGreat.Spa
open Go.RowKit Go.Proofs.YtigomhilcnnjdaaGreat
open Go.Proofs.YtigomhilcnnjdaaGreat.Lea (LS Ls findX putL renX LL LO LsR lsC wideL)
open Go.Proofs.YtigomhilcnnjdaaGreat.Edi (Ed Nm EdAt edV)

def setTo (bs : List Blk) (ls : List Int) (k : Nat) : List Blk := setLens (bs.take k) (ls.take k) ++ bs.drop k
theorem setTo_zero (bs : List Blk) (ls : List Int) : setTo bs ls 0 = bs := by unfold setTo; simp [setLens]
theorem setTo_all {bs : List Blk} {ls : List Int} {k : Nat} (h : ls.length = bs.length) (hk : bs.length ≤ k) : setTo bs ls k = setLens bs ls := by
  unfold setTo
  rw [List.take_of_length_le hk, List.take_of_length_le (by omega), List.drop_of_length_le hk, List.append_nil]
theorem setLens_snoc : ∀ (bs : List Blk) (ls : List Int) (b : Blk) (l : Int), ls.length = bs.length → setLens (bs ++ [b]) (ls ++ [l]) = setLens bs ls ++ [⟨b.id, b.gen, l⟩]
  | [], [], b, l, _ => rfl
  | c :: bs, m :: ls, b, l, h => by
    simp only [List.cons_append, setLens]
    rw [setLens_snoc bs ls b l (by simpa using h)]
  | [], m :: ls, _, _, h => by simp at h
  | c :: bs, [], _, _, h => by simp at h
theorem setTo_len {bs : List Blk} {ls : List Int} {k : Nat} (h : ls.length = bs.length) : (setTo bs ls k).length = bs.length := by
  unfold setTo
  rw [List.length_append, setLens_len _ _ (by rw [List.length_take, List.length_take]; omega), List.length_take, List.length_drop]; omega
theorem setTo_at {bs : List Blk} {ls : List Int} {k : Nat} (h : ls.length = bs.length) (hk : k < bs.length) : (setTo bs ls k)[k]'(by rw [setTo_len h]; exact hk) = bs[k] := by
  unfold setTo
  have hl : (setLens (bs.take k) (ls.take k)).length = k := by rw [setLens_len _ _ (by rw [List.length_take, List.length_take]; omega), List.length_take]; omega
  rw [List.getElem_append_right (by omega)]
  simp [hl]
theorem setTo_next {bs : List Blk} {ls : List Int} {k : Nat} (h : ls.length = bs.length) (hk : k < bs.length) : setTo bs ls (k + 1) = (setTo bs ls k).set k ⟨bs[k].id, bs[k].gen, ls[k]'(by omega)⟩ := by
  unfold setTo
  have hl : (setLens (bs.take k) (ls.take k)).length = k := by rw [setLens_len _ _ (by rw [List.length_take, List.length_take]; omega), List.length_take]; omega
  rw [List.take_succ_eq_append_getElem hk, List.take_succ_eq_append_getElem (show k < ls.length by omega), setLens_snoc _ _ _ _ (by rw [List.length_take, List.length_take]; omega), List.set_append_right _ _ (by omega), hl, Nat.sub_self, List.drop_eq_getElem_cons hk, List.set_cons_zero]
  simp

/-- One number of a block of the call's own is written. -/
theorem Free.setBlk {base : Nat} {w : World} {x : Nd} {s : RS} (h : Free base w (x, s)) {b j o : Nat} (hb : s.a = some ⟨b, 0, none⟩) (hj : j < x.bs.length) (ho : o < 3) (v : Int) (y : Blk) (hy : ∀ i, (blkC y)[i]? = if i = o then some (.int .i64 v) else (blkC x.bs[j])[i]?) :
    Free base (w.setCell ⟨b, j * 3 + o, none⟩ (.int .i64 v)) (withBs x (x.bs.set j y), s) ∧ Stay (fun k => s.blk = some k) w (w.setCell ⟨b, j * 3 + o, none⟩ (.int .i64 v)) := by
  have hl : x.bs.length = s.n := h.ok.bs.len
  obtain ⟨b', ha, hle, hc⟩ := h.own (by show 0 < s.n; omega)
  have ha' : s.a = some ⟨b', 0, none⟩ := ha
  rw [hb] at ha'
  cases ha'
  have hblk : s.blk = some b := by unfold RS.blk; rw [if_neg (by omega), hb]; rfl
  have hlen : ∀ y : Blk, (blkC y).length = 3 := fun _ => rfl
  have hcell : ∀ t, (w.setCell ⟨b, j * 3 + o, none⟩ (.int .i64 v)).cell? ⟨b, t, none⟩ = if t = j * 3 + o then some (.int .i64 v) else w.cell? ⟨b, t, none⟩ := fun t => by
    by_cases e : t = j * 3 + o
    · subst e
      rw [if_pos rfl]
      have h1 := (hc (j * 3 + o) (by show j * 3 + o < s.n * 3; omega)).1
      obtain ⟨u, hu⟩ := Option.isSome_iff_exists.1 h1
      exact same_cell hu
    · rw [if_neg e]
      exact other_cell _ _ _ _ _ (fun e2 => e e2.symm)
  refine ⟨⟨⟨h.ok.small, ?_, h.ok.bs.lid, h.ok.bs.nil, fun hp => ?_⟩, fun hp => ⟨b, hb, hle, fun t ht => ⟨?_, ?_⟩⟩⟩, Stay.setCell _ _ _ hblk⟩
  · show (x.bs.set j y).length = s.n
    rw [List.length_set]; exact hl
  · refine ⟨b, 0, hb, fun q hq i u hu => ?_⟩
    have hq' : q < x.bs.length := by
      have : q < (x.bs.set j y).length := hq
      rwa [List.length_set] at this
    obtain ⟨b2, off2, h1, h2⟩ := h.ok.bs.cells hp
    have h1' : s.a = some ⟨b2, off2, none⟩ := h1
    rw [hb] at h1'
    cases h1'
    have hu' : (blkC ((x.bs.set j y)[q]'(by rw [List.length_set]; exact hq')))[i]? = some u := hu
    have hi : i < 3 := by
      have := (List.getElem?_eq_some_iff.1 hu').1
      rwa [hlen] at this
    rw [Nat.zero_add, hcell]
    by_cases e : q = j
    · subst e
      rw [List.getElem_set_self, hy i] at hu'
      by_cases e2 : i = o
      · subst e2
        rw [if_pos rfl] at hu'
        rw [if_pos rfl]; exact hu'
      · rw [if_neg e2] at hu'
        rw [if_neg (by omega)]
        have := h2 q hq' i u hu'
        rw [Nat.zero_add] at this; exact this
    · rw [List.getElem_set_ne (fun e2 => e e2.symm)] at hu'
      rw [if_neg (by omega)]
      have := h2 q hq' i u hu'
      rw [Nat.zero_add] at this; exact this
  · rw [hcell]
    split
    · rfl
    · exact (hc t ht).1
  · rw [World.frozen?_setCell]; exact (hc t ht).2

theorem withBs_self (x : Nd) : withBs x x.bs = x := rfl
theorem withBs_two (x : Nd) (a b : List Blk) : withBs (withBs x a) b = withBs x b := rfl

theorem lens_first {bs : List Blk} {ls : List Int} (hl : ls.length = bs.length) (h : ¬ LenOk bs ls) : ∃ k, ∃ hk : k < ls.length, 64 < ls[k] ∧ ∀ j (hj : j < ls.length), j < k → ls[j] ≤ 64 := by
  have h1 : ¬ ∀ l ∈ ls, l ≤ 64 := fun e => h ⟨hl, e⟩
  clear h hl
  induction ls with
  | nil => exact absurd (fun l hl => by cases hl) h1
  | cons l ls ih =>
    by_cases h2 : l ≤ 64
    · have h3 : ¬ ∀ l ∈ ls, l ≤ 64 := fun e => h1 (fun m hm => by
        rcases List.mem_cons.1 hm with rfl | hm
        · exact h2
        · exact e m hm)
      obtain ⟨k, hk, h4, h5⟩ := ih h3
      refine ⟨k + 1, by simpa using hk, by simpa using h4, fun j hj hjk => ?_⟩
      cases j with
      | zero => exact h2
      | succ j => simpa using h5 j (by simpa using hj) (by omega)
    · exact ⟨0, by simp, by simpa using h2, fun j hj hjk => by omega⟩

end Go.Proofs.YtigomhilcnnjdaaGreat.Spa

/- Answers in memory; what becomes of a space of the call's own. -/
namespace Go.Proofs.YtigomhilcnnjdaaGreat.Spa
open Go.RowKit Go.Proofs.YtigomhilcnnjdaaGreat
open Go.Proofs.YtigomhilcnnjdaaGreat.Lea (LS Ls findX putL renX LL LO LsR lsC wideL)
open Go.Proofs.YtigomhilcnnjdaaGreat.Edi (Ed Nm EdAt edV)

def anV (E : Int) (b : Blk) (T : RS) (x : NR) (n : Int) : Value := .agg #[.int .i64 E, .int .i64 b.id, .int .i64 b.gen, .int .i64 b.len, .slice T.a T.n T.c, .string x.1.path, .bool x.1.dir, .int .i64 x.1.quota, .slice x.2.a x.2.n x.2.c, .int .i64 x.1.wr, .int .i64 n]
/-- The cells of an answer. -/
structure AnC (w : World) (B : Nat) (E : Int) (b : Blk) (T : RS) (x : NR) (n : Int) : Prop where
  c0 : w.cell? ⟨B, 0, none⟩ = some (.int .i64 E)
  c1 : w.cell? ⟨B, 1, none⟩ = some (.int .i64 b.id)
  c2 : w.cell? ⟨B, 2, none⟩ = some (.int .i64 b.gen)
  c3 : w.cell? ⟨B, 3, none⟩ = some (.int .i64 b.len)
  c4 : w.cell? ⟨B, 4, none⟩ = some (.slice T.a T.n T.c)
  c5 : w.cell? ⟨B, 5, none⟩ = some (.string x.1.path)
  c6 : w.cell? ⟨B, 6, none⟩ = some (.bool x.1.dir)
  c7 : w.cell? ⟨B, 7, none⟩ = some (.int .i64 x.1.quota)
  c8 : w.cell? ⟨B, 8, none⟩ = some (.slice x.2.a x.2.n x.2.c)
  c9 : w.cell? ⟨B, 9, none⟩ = some (.int .i64 x.1.wr)
  c10 : w.cell? ⟨B, 10, none⟩ = some (.int .i64 n)
  fr : ∀ j, w.frozen? ⟨B, j, none⟩ = false
theorem AnC.keep {O : Nat → Prop} {w w' : World} {B : Nat} {E : Int} {b : Blk} {T : RS} {x : NR} {n : Int} (h : AnC w B E b T x n) (hs : Stay O w w') (hO : ¬ O B) : AnC w' B E b T x n := by
  have hb := hs.block B (World.block_lt_of_cell? _ _ h.c0) hO
  exact ⟨(World.cell?_of_block (a := ⟨B, 0, none⟩) hb).trans h.c0, (World.cell?_of_block (a := ⟨B, 1, none⟩) hb).trans h.c1, (World.cell?_of_block (a := ⟨B, 2, none⟩) hb).trans h.c2, (World.cell?_of_block (a := ⟨B, 3, none⟩) hb).trans h.c3, (World.cell?_of_block (a := ⟨B, 4, none⟩) hb).trans h.c4, (World.cell?_of_block (a := ⟨B, 5, none⟩) hb).trans h.c5, (World.cell?_of_block (a := ⟨B, 6, none⟩) hb).trans h.c6, (World.cell?_of_block (a := ⟨B, 7, none⟩) hb).trans h.c7, (World.cell?_of_block (a := ⟨B, 8, none⟩) hb).trans h.c8, (World.cell?_of_block (a := ⟨B, 9, none⟩) hb).trans h.c9, (World.cell?_of_block (a := ⟨B, 10, none⟩) hb).trans h.c10, fun j => (World.frozen?_of_block (a := ⟨B, j, none⟩) hb).trans (h.fr j)⟩
theorem AnC.below {w w' : World} {B : Nat} {E : Int} {b : Blk} {T : RS} {x : NR} {n : Int} (h : AnC w B E b T x n) (hb : Below w.heap.size w w') : AnC w' B E b T x n :=
  h.keep (O := fun _ => False) (Stay.of_below hb) (fun e => e)
def noS : RS := ⟨none, 0, 0⟩
def zeroX : NR := (zeroN, noS)
theorem AnC.new (w : World) (t : TypeId) : AnC (w.alloc (.cells #[.int .i64 0, .int .i64 0, .int .i64 0, .int .i64 0, .slice none 0 0, .string ⟨#[]⟩, .bool false, .int .i64 0, .slice none 0 0, .int .i64 0, .int .i64 0] t)) w.heap.size 0 zeroB noS zeroX 0 :=
  ⟨World.cell?_alloc_new w _ t 0, World.cell?_alloc_new w _ t 1, World.cell?_alloc_new w _ t 2, World.cell?_alloc_new w _ t 3, World.cell?_alloc_new w _ t 4, World.cell?_alloc_new w _ t 5, World.cell?_alloc_new w _ t 6, World.cell?_alloc_new w _ t 7, World.cell?_alloc_new w _ t 8, World.cell?_alloc_new w _ t 9, World.cell?_alloc_new w _ t 10, fun j => World.frozen?_alloc_new w _ t j⟩
/-- The world behind the storing of a whole answer. -/
def put11 (w : World) (B : Nat) (E : Int) (b : Blk) (T : RS) (x : NR) (n : Int) : World :=
  (((((((((((w.setCell ⟨B, 0, none⟩ (.int .i64 E)).setCell ⟨B, 1, none⟩ (.int .i64 b.id)).setCell ⟨B, 2, none⟩ (.int .i64 b.gen)).setCell ⟨B, 3, none⟩ (.int .i64 b.len)).setCell ⟨B, 4, none⟩ (.slice T.a T.n T.c)).setCell ⟨B, 5, none⟩ (.string x.1.path)).setCell ⟨B, 6, none⟩ (.bool x.1.dir)).setCell ⟨B, 7, none⟩ (.int .i64 x.1.quota)).setCell ⟨B, 8, none⟩ (.slice x.2.a x.2.n x.2.c)).setCell ⟨B, 9, none⟩ (.int .i64 x.1.wr)).setCell ⟨B, 10, none⟩ (.int .i64 n))
theorem put11_at {w : World} {B : Nat} {E0 : Int} {b0 : Blk} {T0 : RS} {x0 : NR} {n0 : Int} (h : AnC w B E0 b0 T0 x0 n0) (E : Int) (b : Blk) (T : RS) (x : NR) (n : Int) : AnC (put11 w B E b T x n) B E b T x n ∧ Stay (fun k => k = B) w (put11 w B E b T x n) := by
  constructor
  · unfold put11
    refine ⟨?_, ?_, ?_, ?_, ?_, ?_, ?_, ?_, ?_, ?_, ?_, fun j => by simp only [World.frozen?_setCell]; exact h.fr j⟩
    · rw [other_cell _ _ _ _ _ (by omega), other_cell _ _ _ _ _ (by omega), other_cell _ _ _ _ _ (by omega), other_cell _ _ _ _ _ (by omega), other_cell _ _ _ _ _ (by omega), other_cell _ _ _ _ _ (by omega), other_cell _ _ _ _ _ (by omega), other_cell _ _ _ _ _ (by omega), other_cell _ _ _ _ _ (by omega), other_cell _ _ _ _ _ (by omega)]
      refine same_cell (u := .int .i64 E0) ?_
      exact h.c0
    · rw [other_cell _ _ _ _ _ (by omega), other_cell _ _ _ _ _ (by omega), other_cell _ _ _ _ _ (by omega), other_cell _ _ _ _ _ (by omega), other_cell _ _ _ _ _ (by omega), other_cell _ _ _ _ _ (by omega), other_cell _ _ _ _ _ (by omega), other_cell _ _ _ _ _ (by omega), other_cell _ _ _ _ _ (by omega)]
      refine same_cell (u := .int .i64 b0.id) ?_
      rw [other_cell _ _ _ _ _ (by omega)]
      exact h.c1
    · rw [other_cell _ _ _ _ _ (by omega), other_cell _ _ _ _ _ (by omega), other_cell _ _ _ _ _ (by omega), other_cell _ _ _ _ _ (by omega), other_cell _ _ _ _ _ (by omega), other_cell _ _ _ _ _ (by omega), other_cell _ _ _ _ _ (by omega), other_cell _ _ _ _ _ (by omega)]
      refine same_cell (u := .int .i64 b0.gen) ?_
      rw [other_cell _ _ _ _ _ (by omega), other_cell _ _ _ _ _ (by omega)]
      exact h.c2
    · rw [other_cell _ _ _ _ _ (by omega), other_cell _ _ _ _ _ (by omega), other_cell _ _ _ _ _ (by omega), other_cell _ _ _ _ _ (by omega), other_cell _ _ _ _ _ (by omega), other_cell _ _ _ _ _ (by omega), other_cell _ _ _ _ _ (by omega)]
      refine same_cell (u := .int .i64 b0.len) ?_
      rw [other_cell _ _ _ _ _ (by omega), other_cell _ _ _ _ _ (by omega), other_cell _ _ _ _ _ (by omega)]
      exact h.c3
    · rw [other_cell _ _ _ _ _ (by omega), other_cell _ _ _ _ _ (by omega), other_cell _ _ _ _ _ (by omega), other_cell _ _ _ _ _ (by omega), other_cell _ _ _ _ _ (by omega), other_cell _ _ _ _ _ (by omega)]
      refine same_cell (u := .slice T0.a T0.n T0.c) ?_
      rw [other_cell _ _ _ _ _ (by omega), other_cell _ _ _ _ _ (by omega), other_cell _ _ _ _ _ (by omega), other_cell _ _ _ _ _ (by omega)]
      exact h.c4
    · rw [other_cell _ _ _ _ _ (by omega), other_cell _ _ _ _ _ (by omega), other_cell _ _ _ _ _ (by omega), other_cell _ _ _ _ _ (by omega), other_cell _ _ _ _ _ (by omega)]
      refine same_cell (u := .string x0.1.path) ?_
      rw [other_cell _ _ _ _ _ (by omega), other_cell _ _ _ _ _ (by omega), other_cell _ _ _ _ _ (by omega), other_cell _ _ _ _ _ (by omega), other_cell _ _ _ _ _ (by omega)]
      exact h.c5
    · rw [other_cell _ _ _ _ _ (by omega), other_cell _ _ _ _ _ (by omega), other_cell _ _ _ _ _ (by omega), other_cell _ _ _ _ _ (by omega)]
      refine same_cell (u := .bool x0.1.dir) ?_
      rw [other_cell _ _ _ _ _ (by omega), other_cell _ _ _ _ _ (by omega), other_cell _ _ _ _ _ (by omega), other_cell _ _ _ _ _ (by omega), other_cell _ _ _ _ _ (by omega), other_cell _ _ _ _ _ (by omega)]
      exact h.c6
    · rw [other_cell _ _ _ _ _ (by omega), other_cell _ _ _ _ _ (by omega), other_cell _ _ _ _ _ (by omega)]
      refine same_cell (u := .int .i64 x0.1.quota) ?_
      rw [other_cell _ _ _ _ _ (by omega), other_cell _ _ _ _ _ (by omega), other_cell _ _ _ _ _ (by omega), other_cell _ _ _ _ _ (by omega), other_cell _ _ _ _ _ (by omega), other_cell _ _ _ _ _ (by omega), other_cell _ _ _ _ _ (by omega)]
      exact h.c7
    · rw [other_cell _ _ _ _ _ (by omega), other_cell _ _ _ _ _ (by omega)]
      refine same_cell (u := .slice x0.2.a x0.2.n x0.2.c) ?_
      rw [other_cell _ _ _ _ _ (by omega), other_cell _ _ _ _ _ (by omega), other_cell _ _ _ _ _ (by omega), other_cell _ _ _ _ _ (by omega), other_cell _ _ _ _ _ (by omega), other_cell _ _ _ _ _ (by omega), other_cell _ _ _ _ _ (by omega), other_cell _ _ _ _ _ (by omega)]
      exact h.c8
    · rw [other_cell _ _ _ _ _ (by omega)]
      refine same_cell (u := .int .i64 x0.1.wr) ?_
      rw [other_cell _ _ _ _ _ (by omega), other_cell _ _ _ _ _ (by omega), other_cell _ _ _ _ _ (by omega), other_cell _ _ _ _ _ (by omega), other_cell _ _ _ _ _ (by omega), other_cell _ _ _ _ _ (by omega), other_cell _ _ _ _ _ (by omega), other_cell _ _ _ _ _ (by omega), other_cell _ _ _ _ _ (by omega)]
      exact h.c9
    · refine same_cell (u := .int .i64 n0) ?_
      rw [other_cell _ _ _ _ _ (by omega), other_cell _ _ _ _ _ (by omega), other_cell _ _ _ _ _ (by omega), other_cell _ _ _ _ _ (by omega), other_cell _ _ _ _ _ (by omega), other_cell _ _ _ _ _ (by omega), other_cell _ _ _ _ _ (by omega), other_cell _ _ _ _ _ (by omega), other_cell _ _ _ _ _ (by omega), other_cell _ _ _ _ _ (by omega)]
      exact h.c10
  · unfold put11
    exact ((((((((((Stay.setCell (O := fun k => k = B) w _ _ rfl).then_same (Stay.setCell _ _ _ rfl)).then_same (Stay.setCell _ _ _ rfl)).then_same (Stay.setCell _ _ _ rfl)).then_same (Stay.setCell _ _ _ rfl)).then_same (Stay.setCell _ _ _ rfl)).then_same (Stay.setCell _ _ _ rfl)).then_same (Stay.setCell _ _ _ rfl)).then_same (Stay.setCell _ _ _ rfl)).then_same (Stay.setCell _ _ _ rfl)).then_same (Stay.setCell _ _ _ rfl)

/-- What a space of the call's own is made of: all of it ahead of M. -/
structure OwnM (base M : Nat) (w : World) (s : Sp) (N L : RS) (ps : List NR) (g gl : Option Nat) : Prop where
  lot : Lot base w N.a N.n N.c ps g
  map : ps.map (·.1) = s.ns
  lo : LO base w L.a L.n L.c s.ls gl
  gl1 : ∀ k, g = some k → gl ≠ some k
  gl2 : ∀ x ∈ ps, ∀ k, x.2.blk = some k → gl ≠ some k
  lt1 : ∀ k, g = some k → k < M
  lt2 : ∀ k, gl = some k → k < M
  lt3 : ∀ x ∈ ps, ∀ k, x.2.blk = some k → k < M
theorem OwnM.below {base M : Nat} {w w' : World} {s : Sp} {N L : RS} {ps : List NR} {g gl : Option Nat} (h : OwnM base M w s N L ps g gl) (hb : Below w.heap.size w w') : OwnM base M w' s N L ps g gl :=
  ⟨h.lot.below hb, h.map, h.lo.below hb, h.gl1, h.gl2, h.lt1, h.lt2, h.lt3⟩
theorem OwnM.mono {b1 b2 M : Nat} {w : World} {s : Sp} {N L : RS} {ps : List NR} {g gl : Option Nat} (h : OwnM b1 M w s N L ps g gl) (hb : b2 ≤ b1) : OwnM b2 M w s N L ps g gl :=
  ⟨h.lot.mono hb, h.map, h.lo.mono hb, h.gl1, h.gl2, h.lt1, h.lt2, h.lt3⟩
theorem OwnM.up {base M M2 : Nat} {w : World} {s : Sp} {N L : RS} {ps : List NR} {g gl : Option Nat} (h : OwnM base M w s N L ps g gl) (hM : M ≤ M2) : OwnM base M2 w s N L ps g gl :=
  ⟨h.lot, h.map, h.lo, h.gl1, h.gl2, fun k hk => Nat.lt_of_lt_of_le (h.lt1 k hk) hM, fun k hk => Nat.lt_of_lt_of_le (h.lt2 k hk) hM, fun x hx k hk => Nat.lt_of_lt_of_le (h.lt3 x hx k hk) hM⟩
theorem Own.m {base : Nat} {w : World} {s : Sp} {N L : RS} {ps : List NR} {g gl : Option Nat} (h : Own base w s N L ps g gl) : OwnM base w.heap.size w s N L ps g gl :=
  ⟨h.lot, h.map, h.lo, h.gl1, h.gl2, fun k hk => by have := h.lot.cel; rw [hk] at this; exact this.lt.1, fun k hk => (h.lo.own k hk).1, fun x hx k hk => (h.lot.ok x hx).ok.bs.lt k hk⟩
theorem OwnM.out {base M : Nat} {O : Nat → Prop} {w w' : World} {s : Sp} {N L : RS} {ps : List NR} {g gl : Option Nat} (h : OwnM base M w s N L ps g gl) (hs : Stay O w w') (hO : ∀ k, O k → k < base ∨ M ≤ k) : OwnM base M w' s N L ps g gl := by
  have hg : ∀ k, g = some k → k < w.heap.size ∧ base ≤ k := fun k hk => by have := h.lot.cel; rw [hk] at this; exact this.lt
  refine ⟨h.lot.stay hs.size (fun k hk => hs.block k (hg k hk).1 (fun e => ?_)) (fun x hx k hk => hs.block k ((h.lot.ok x hx).ok.bs.lt k hk) (fun e => ?_)), h.map, ?_, h.gl1, h.gl2, h.lt1, h.lt2, h.lt3⟩
  · have := hO k e; have := (hg k hk).2; have := h.lt1 k hk; omega
  · have := hO k e; have := (h.lot.ok x hx).blk_ge k hk; have := h.lt3 x hx k hk; omega
  · have ho := h.lo.own
    exact ⟨h.lo.cel.stay hs.size (fun k hk => hs.block k (ho k hk).1 (fun e => by have := hO k e; have := (ho k hk).2; have := h.lt2 k hk; omega)) (fun _ e => e), h.lo.len⟩

theorem Free.out {base : Nat} {O : Nat → Prop} {w w' : World} {x : NR} (h : Free base w x) (hs : Stay O w w') (hO : ∀ k, O k → k < base) : Free base w' x :=
  Stay.free h hs (fun k hk e => by have := hO k e; have := h.blk_ge k hk; omega)

/-- One node of a space of the call's own is another one now. -/
theorem Own.upd {base : Nat} {O : Nat → Prop} {w w' : World} {s : Sp} {N L : RS} {ps : List NR} {gb : Nat} {gl : Option Nat} (h : Own base w s N L ps (some gb) gl) {i : Nat} (hi : i < ps.length) (y : NR)
    (hC : Cel (fun k => base ≤ k) w' 5 (.slice N.a N.n N.c) N.n (rowC ndC (ps.set i y)) (some gb)) (hF : Free base w' y) (hS : Stay O w w') (hO : ∀ k, k < w.heap.size → O k → k = gb ∨ ps[i].2.blk = some k)
    (hb : ∀ k, y.2.blk = some k → ps[i].2.blk = some k ∨ w.heap.size ≤ k) : Own base w' ⟨s.tx, s.nb, s.ng, s.now, s.ns.set i y.1, s.ls⟩ N L (ps.set i y) (some gb) gl := by
  have hgb := h.lot.cel.lt
  have hlt : ∀ x ∈ ps, ∀ k, x.2.blk = some k → k < w.heap.size := fun x hx k hk => (h.lot.ok x hx).ok.bs.lt k hk
  have hmi : ps[i] ∈ ps := List.getElem_mem hi
  have hsep : ∀ j (hj : j < ps.length), j ≠ i → ∀ k, ps[j].2.blk = some k → ps[i].2.blk ≠ some k := fun j hj hne k hk e => by
    have hp := List.pairwise_iff_getElem.1 h.sep
    rcases Nat.lt_or_gt_of_ne hne with hl | hl
    · exact hp j i hj hi hl k hk e
    · exact hp i j hi hj hl k e hk
  have hyn : ∀ j (hj : j < ps.length), j ≠ i → ∀ k, ps[j].2.blk = some k → y.2.blk ≠ some k := fun j hj hne k hk e => by
    rcases hb k e with e2 | e2
    · exact hsep j hj hne k hk e2
    · have := hlt _ (List.getElem_mem hj) k hk; omega
  have hmem : ∀ z ∈ ps.set i y, z = y ∨ ∃ j, ∃ hj : j < ps.length, j ≠ i ∧ z = ps[j] := fun z hz => by
    obtain ⟨j, hj, rfl⟩ := List.getElem_of_mem hz
    rw [List.length_set] at hj
    by_cases e : j = i
    · subst e; exact .inl (List.getElem_set_self _)
    · exact .inr ⟨j, hj, e, List.getElem_set_ne (fun e2 => e e2.symm) _⟩
  refine ⟨⟨hC, by rw [List.length_set]; exact h.lot.len, fun z hz => ?_, fun z hz k hk => ?_⟩, by rw [List.map_set, h.map], ?_, ?_, h.gl1, fun z hz k hk => ?_⟩
  · rcases hmem z hz with rfl | ⟨j, hj, hne, rfl⟩
    · exact hF
    · refine Stay.free (h.lot.ok _ (List.getElem_mem hj)) hS (fun k hk e => ?_)
      rcases hO k (hlt _ (List.getElem_mem hj) k hk) e with rfl | e2
      · exact h.lot.ap _ (List.getElem_mem hj) k rfl hk
      · exact hsep j hj hne k hk e2
  · cases hk
    rcases hmem z hz with rfl | ⟨j, hj, hne, rfl⟩
    · intro e
      rcases hb gb e with e2 | e2
      · exact h.lot.ap _ hmi gb rfl e2
      · have := hgb.1; omega
    · exact h.lot.ap _ (List.getElem_mem hj) gb rfl
  · have ho := h.lo.own
    refine ⟨h.lo.cel.stay hS.size (fun k hk => hS.block k (ho k hk).1 (fun e => ?_)) (fun _ e => e), h.lo.len⟩
    rcases hO k (ho k hk).1 e with rfl | e2
    · exact h.gl1 k rfl hk
    · exact h.gl2 _ hmi k e2 hk
  · rw [List.pairwise_iff_getElem]
    intro a b ha0 hb0 hab
    have ha : a < ps.length := by simpa using ha0
    have hb2 : b < ps.length := by simpa using hb0
    have hp := List.pairwise_iff_getElem.1 h.sep
    by_cases e1 : a = i
    · subst e1
      rw [List.getElem_set_self, List.getElem_set_ne (by omega)]
      intro k hk e
      exact hyn b hb2 (by omega) k e hk
    · rw [List.getElem_set_ne (fun e => e1 e.symm)]
      by_cases e2 : b = i
      · subst e2
        rw [List.getElem_set_self]
        intro k hk e
        exact hyn a ha (by omega) k hk e
      · rw [List.getElem_set_ne (fun e => e2 e.symm)]
        exact hp a b ha hb2 hab
  · rcases hmem z hz with rfl | ⟨j, hj, hne, rfl⟩
    · rcases hb k hk with e2 | e2
      · exact h.gl2 _ hmi k e2
      · intro e
        have := (h.lo.own k e).1
        omega
    · exact h.gl2 _ (List.getElem_mem hj) k hk

/-- One number of a node is written. -/
theorem Cel.setF {O : Nat → Prop} {w : World} {g n c : Nat} {a : Option Addr} {ps : List NR} (h : Cel O w 5 (.slice a n c) n (rowC ndC ps) (some g)) (hn : ps.length = n) {i : Nat} (hi : i < ps.length) (o : Nat) (ho : o < 5) (v : Value) (y : NR) (hy : ∀ j, (ndC y)[j]? = if j = o then some v else (ndC ps[i])[j]?) :
    Cel O (w.setCell ⟨g, i * 5 + o, none⟩ v) 5 (.slice a n c) n (rowC ndC (ps.set i y)) (some g) := by
  have hc := h.cap2.1
  have h1 : (i + 1) * 5 ≤ c * 5 := Nat.mul_le_mul_right _ (by omega)
  have hl : (rowC ndC (ps.set i y)).length = n * 5 := by rw [rowC_len wideX, List.length_set, hn]
  refine h.setCells (i * 5 + o) [v] (by simp; omega) n _ hc hl (fun q hq => ?_)
  rw [← List.getElem?_eq_getElem hq]
  rw [hl] at hq
  have e := rowC_at wideX (ps.set i y) (q / 5) (by rw [List.length_set]; omega) (q % 5) (by omega)
  have e' := rowC_at wideX ps (q / 5) (by omega) (q % 5) (by omega)
  have e2 : q / 5 * 5 + q % 5 = q := by omega
  rw [e2] at e e'
  rw [e, e', List.length_singleton]
  by_cases hqi : q / 5 = i
  · subst hqi
    rw [List.getElem_set_self, hy]
    by_cases h0 : q % 5 = o
    · rw [if_pos (by omega), if_pos h0, show q - (q / 5 * 5 + o) = 0 by omega]; rfl
    · rw [if_neg (by omega), if_neg h0]
  · rw [if_neg (by omega), List.getElem_set_ne (fun e => hqi e.symm)]

/-- Ahead of an edit: the space lies in the block S, its nodes' row in gb, all of it from base on. -/
structure Pre (base M0 S : Nat) (w : World) (s : Sp) (N L : RS) (ps : List NR) (gb : Nat) (gl : Option Nat) : Prop where
  c : SpC w S s N L
  own : Own base w s N L ps (some gb) gl
  na : N.a = some ⟨gb, 0, none⟩
  sb : S < base
  bw : base ≤ w.heap.size
  m1 : gb < M0
  m2 : ∀ k, gl = some k → k < M0
  m3 : ∀ x ∈ ps, ∀ k, x.2.blk = some k → k < M0
  mw : M0 ≤ w.heap.size
theorem Pre.below {base M0 S : Nat} {w w' : World} {s : Sp} {N L : RS} {ps : List NR} {gb : Nat} {gl : Option Nat} (h : Pre base M0 S w s N L ps gb gl) (hb : Below w.heap.size w w') : Pre base M0 S w' s N L ps gb gl :=
  ⟨h.c.below hb, h.own.below hb, h.na, h.sb, Nat.le_trans h.bw hb.size, h.m1, h.m2, h.m3, Nat.le_trans h.mw hb.size⟩
theorem Pre.lies {base M0 S : Nat} {w : World} {s : Sp} {N L : RS} {ps : List NR} {gb : Nat} {gl : Option Nat} (h : Pre base M0 S w s N L ps gb gl) (hp : 0 < ps.length) : Lies w S gb N.n N.c ps := by
  obtain ⟨b, hb⟩ := h.own.lot.nds
  have h4 := h.c.c4
  rw [h.na] at h4
  have ha := hb.addr hp
  rw [h.na] at ha hb
  cases ha
  exact ⟨h4, hb, h.own.lot.len⟩

/-- What stays while an edit is made. -/
def Chg (S base M0 : Nat) : Nat → Prop := fun k => k = S ∨ (base ≤ k ∧ k < M0)
/-- The space's blocks are old ones or new. -/
def NewB (M0 n : Nat) (g gl : Option Nat) (ps : List NR) : Prop := (∀ k, g = some k → k < M0 ∨ n ≤ k) ∧ (∀ k, gl = some k → k < M0 ∨ n ≤ k) ∧ (∀ x ∈ ps, ∀ k, x.2.blk = some k → k < M0 ∨ n ≤ k)
/-- An edit is made: the space t lies in S, all of it ahead of M; the answer's node behind it. -/
structure DoneR (S base M0 : Nat) (t : Sp) (b : Blk) (x : Nd) (w : World) (r : Ending) (w' : World) : Prop where
  ex : ∃ N L ps g gl M sx, r = .returned (anV 0 b noS (x, sx) 0) ∧ SpC w' S t N L ∧ OwnM base M w' t N L ps g gl ∧ Free M w' (x, sx) ∧ base ≤ M ∧ NewB M0 w.heap.size g gl ps ∧ (∀ k, sx.blk = some k → w.heap.size ≤ k)
  st : Stay (Chg S base M0) w w'
/-- The same without an answer. -/
structure UnitR (S base M0 : Nat) (t : Sp) (w : World) (r : Ending) (w' : World) : Prop where
  ex : ∃ N L ps g gl, r = .returned (.tuple #[]) ∧ SpC w' S t N L ∧ OwnM base w'.heap.size w' t N L ps g gl ∧ NewB M0 w.heap.size g gl ps
  st : Stay (Chg S base M0) w w'

end Go.Proofs.YtigomhilcnnjdaaGreat.Spa

/- The contracts of image.over and of what it tells. -/
namespace Go.Proofs.YtigomhilcnnjdaaGreat.Img
open Go.RowKit Go.Proofs.YtigomhilcnnjdaaGreat Go.Proofs.YtigomhilcnnjdaaGreat.Smm
open Go.Proofs.YtigomhilcnnjdaaGreat.Edi (numsB takeN takeN_yes takeN_no takeN_size bel_tr bel_al bel_cell)
open Go.Proofs.YtigomhilcnnjdaaGreat.Wir (takeT takeNum_val takeNumV_no takeNumV_yes takeText_yes takeText_no)

/-- Two boxes: what is left, and whether all was there. -/
structure Bx (w : World) (bl bs : Nat) (s : St) : Prop where
  l : w.cell? ⟨bl, 0, none⟩ = some (.string s.1)
  o : w.cell? ⟨bs, 0, none⟩ = some (.bool s.2)
  fl : w.frozen? ⟨bl, 0, none⟩ = false
  fo : w.frozen? ⟨bs, 0, none⟩ = false
  ne : bl ≠ bs
  sz : s.1.size ≤ maxLen
abbrev Two (bl bs : Nat) : Nat → Prop := fun k => k = bl ∨ k = bs
theorem Stay.cell {O : Nat → Prop} {w w' : World} (h : Stay O w w') {a : Addr} {v : Value} (hc : w.cell? a = some v) (hO : ¬ O a.block) : w'.cell? a = some v :=
  (World.cell?_of_block (a := a) (h.block a.block (World.block_lt_of_cell? _ _ hc) hO)).trans hc
theorem Stay.frozen {O : Nat → Prop} {w w' : World} (h : Stay O w w') {a : Addr} {v : Value} (hc : w.cell? a = some v) (hf : w.frozen? a = false) (hO : ¬ O a.block) : w'.frozen? a = false :=
  (World.frozen?_of_block (a := a) (h.block a.block (World.block_lt_of_cell? _ _ hc) hO)).trans hf
theorem Bx.keep {O : Nat → Prop} {w w' : World} {bl bs : Nat} {s : St} (h : Bx w bl bs s) (hs : Stay O w w') (h1 : ¬ O bl) (h2 : ¬ O bs) : Bx w' bl bs s :=
  ⟨Stay.cell hs h.l h1, Stay.cell hs h.o h2, Stay.frozen hs h.l h.fl h1, Stay.frozen hs h.o h.fo h2, h.ne, h.sz⟩
theorem Bx.below {w w' : World} {bl bs : Nat} {s : St} (h : Bx w bl bs s) (hb : Below w.heap.size w w') : Bx w' bl bs s := h.keep (Stay.of_below (O := fun _ => False) hb) id id
theorem Bx.lt {w : World} {bl bs : Nat} {s : St} (h : Bx w bl bs s) : bl < w.heap.size ∧ bs < w.heap.size := ⟨World.block_lt_of_cell? _ _ h.l, World.block_lt_of_cell? _ _ h.o⟩
theorem Bx.put {w : World} {bl bs : Nat} {s : St} (h : Bx w bl bs s) (r : ByteArray) (v : Bool) (hr : r.size ≤ maxLen) :
    Bx ((w.setCell ⟨bl, 0, none⟩ (.string r)).setCell ⟨bs, 0, none⟩ (.bool v)) bl bs (r, v) ∧ Stay (Two bl bs) w ((w.setCell ⟨bl, 0, none⟩ (.string r)).setCell ⟨bs, 0, none⟩ (.bool v)) := by
  have s1 : Stay (fun k => k = bl) w (w.setCell ⟨bl, 0, none⟩ (.string r)) := Stay.setCell _ _ _ rfl
  have s2 : Stay (fun k => k = bs) (w.setCell ⟨bl, 0, none⟩ (.string r)) ((w.setCell ⟨bl, 0, none⟩ (.string r)).setCell ⟨bs, 0, none⟩ (.bool v)) := Stay.setCell _ _ _ rfl
  have o1 := Stay.cell s1 h.o (fun e => h.ne e.symm)
  have l1 : (w.setCell ⟨bl, 0, none⟩ (.string r)).cell? ⟨bl, 0, none⟩ = some (.string r) := World.cell?_setCell_same _ _ _ h.l
  refine ⟨⟨Stay.cell s2 l1 h.ne, World.cell?_setCell_same _ _ _ o1, ?_, ?_, h.ne, hr⟩, (s1.mono fun i e => .inl e).then_same (s2.mono fun i e => .inr e)⟩
  · rw [World.frozen?_setCell, World.frozen?_setCell]; exact h.fl
  · rw [World.frozen?_setCell, World.frozen?_setCell]; exact h.fo
theorem bel_stay {O : Nat → Prop} {w0 w w' : World} (hb : Below w0.heap.size w0 w) (hs : Stay O w w') (hO : ∀ k, O k → w0.heap.size ≤ k) : Below w0.heap.size w0 w' :=
  ((Stay.of_below (O := fun k => w0.heap.size ≤ k) hb).then_same (hs.mono hO)).below (Nat.le_refl _) (fun _ hk => hk)

set_option maxRecDepth 100000 in
set_option maxHeartbeats 1000000 in
theorem num_cl {w : World} {bl bs : Nat} {s : St} (h : Bx w bl bs s) (n : Int) (s' : St) (hs : numS s = (n, s')) :
    Calls Tryz.prog 70 #[.pointer (some ⟨bl, 0, none⟩), .pointer (some ⟨bs, 0, none⟩)] w fun e w' => e = .returned (.int .i64 n) ∧ Bx w' bl bs s' ∧ Stay (Two bl bs) w w' := by
  have H : Hid (Bx w bl bs s) := h
  obtain ⟨b, v⟩ := s
  have x0 := h.l
  have hz := h.sz
  simp only at x0 hz
  have hne : bl ≠ bs := h.ne
  cases hT : takeN b with
  | none =>
    rw [numS_no hT] at hs
    simp only [Prod.mk.injEq] at hs
    obtain ⟨rfl, rfl⟩ := hs
    have CT : Hid (∀ W, Calls Tryz.prog 71 #[.string b] W fun e w' => e = .returned (.tuple #[.int .i64 0, .string ⟨#[]⟩, .int .i64 2]) ∧ Below W.heap.size W w') := fun W => takeNum_val b _ W hz (takeNumV_no (takeN_no hT))
    clear h hT hz
    have hst := run_store_str
    go_enter Tryz.func70, Tryz.ntmps70
    go_wp2_with fail
    refine (CT.out _).mono ?_
    rintro e w1 ⟨rfl, b1⟩
    have hB := H.out.below b1
    have B1 : Hid (Below w.heap.size w w1) := b1
    have HP : Hid _ := hB.put ⟨#[]⟩ false (by unfold maxLen; exact Nat.zero_le _)
    obtain ⟨y0, y1, f0, f1, _, _⟩ := hB
    simp only at y0 y1
    clear b1 x0 CT
    cases v
    all_goals
      go_wp2
      go_ret
      exact ⟨rfl, HP.out.1, (Stay.of_below B1.out).then_same HP.out.2⟩
  | some p =>
    obtain ⟨m, r⟩ := p
    rw [numS_yes hT] at hs
    simp only [Prod.mk.injEq] at hs
    obtain ⟨rfl, rfl⟩ := hs
    have hr := takeN_size hT
    have CT : Hid (∀ W, Calls Tryz.prog 71 #[.string b] W fun e w' => e = .returned (.tuple #[.int .i64 m, .string r, .int .i64 0]) ∧ Below W.heap.size W w') := fun W => by
      obtain ⟨z, k, h1, h2, h3⟩ := takeN_yes hT
      have := takeNum_val b _ W hz (takeNumV_yes h1)
      rw [h2, h3] at this
      exact this
    have hrm : r.size ≤ maxLen := by omega
    clear h hT hz hr
    have hst := run_store_str
    go_enter Tryz.func70, Tryz.ntmps70
    go_wp2_with fail
    refine (CT.out _).mono ?_
    rintro e w1 ⟨rfl, b1⟩
    have hB := H.out.below b1
    have B1 : Hid (Below w.heap.size w w1) := b1
    have HP : Hid _ := hB.put r v hrm
    obtain ⟨y0, y1, f0, f1, _, _⟩ := hB
    simp only at y0 y1
    clear b1 x0 CT
    cases v
    all_goals
      go_wp2
      go_ret
      exact ⟨rfl, HP.out.1, (Stay.of_below B1.out).then_same HP.out.2⟩

set_option maxRecDepth 100000 in
set_option maxHeartbeats 1000000 in
theorem txt_cl {w : World} {bl bs : Nat} {s : St} (h : Bx w bl bs s) (t : ByteArray) (s' : St) (hs : txtS s = (t, s')) :
    Calls Tryz.prog 72 #[.pointer (some ⟨bl, 0, none⟩), .pointer (some ⟨bs, 0, none⟩)] w fun e w' => e = .returned (.string t) ∧ Bx w' bl bs s' ∧ Stay (Two bl bs) w w' := by
  have H : Hid (Bx w bl bs s) := h
  obtain ⟨b, v⟩ := s
  have x0 := h.l
  have hz := h.sz
  simp only at x0 hz
  have hne : bl ≠ bs := h.ne
  cases hT : takeT b with
  | none =>
    rw [txtS_no hT] at hs
    simp only [Prod.mk.injEq] at hs
    obtain ⟨rfl, rfl⟩ := hs
    have CT : Hid (∀ W, Calls Tryz.prog 45 #[.string b] W fun e w' => e = .returned (.tuple #[.string ⟨#[]⟩, .string ⟨#[]⟩, .int .i64 2]) ∧ Below W.heap.size W w') := fun W => takeText_no b W hz hT
    clear h hT hz
    have hst := run_store_str
    go_enter Tryz.func72, Tryz.ntmps72
    go_wp2_with fail
    refine (CT.out _).mono ?_
    rintro e w1 ⟨rfl, b1⟩
    have hB := H.out.below b1
    have B1 : Hid (Below w.heap.size w w1) := b1
    have HP : Hid _ := hB.put ⟨#[]⟩ false (by unfold maxLen; exact Nat.zero_le _)
    obtain ⟨y0, y1, f0, f1, _, _⟩ := hB
    simp only at y0 y1
    clear b1 x0 CT
    cases v
    all_goals
      go_wp2
      go_ret
      exact ⟨rfl, HP.out.1, (Stay.of_below B1.out).then_same HP.out.2⟩
  | some p =>
    obtain ⟨m, r⟩ := p
    rw [txtS_yes hT] at hs
    simp only [Prod.mk.injEq] at hs
    obtain ⟨rfl, rfl⟩ := hs
    have hr := Edi.takeT_less hT
    have CT : Hid (∀ W, Calls Tryz.prog 45 #[.string b] W fun e w' => e = .returned (.tuple #[.string m, .string r, .int .i64 0]) ∧ Below W.heap.size W w') := fun W => takeText_yes b m r W hz hT
    have hrm : r.size ≤ maxLen := by omega
    clear h hT hz hr
    have hst := run_store_str
    go_enter Tryz.func72, Tryz.ntmps72
    go_wp2_with fail
    refine (CT.out _).mono ?_
    rintro e w1 ⟨rfl, b1⟩
    have hB := H.out.below b1
    have B1 : Hid (Below w.heap.size w w1) := b1
    have HP : Hid _ := hB.put r v hrm
    obtain ⟨y0, y1, f0, f1, _, _⟩ := hB
    simp only at y0 y1
    clear b1 x0 CT
    cases v
    all_goals
      go_wp2
      go_ret
      exact ⟨rfl, HP.out.1, (Stay.of_below B1.out).then_same HP.out.2⟩

set_option maxRecDepth 100000 in
set_option maxHeartbeats 1000000 in
theorem end_cl {w : World} {bl bs : Nat} {s : St} (h : Bx w bl bs s) (u : Bool) (hu : endB s = u) :
    Calls Tryz.prog 73 #[.pointer (some ⟨bs, 0, none⟩), .pointer (some ⟨bl, 0, none⟩)] w fun e w' => e = .returned (.bool u) ∧ w' = w := by
  obtain ⟨b, v⟩ := s
  have x0 := h.l
  have x1 := h.o
  simp only at x0 x1
  unfold endB at hu
  simp only at hu
  clear h
  go_enter Tryz.func73, Tryz.ntmps73
  cases v with
  | false =>
    have : u = false := by rw [← hu]; rfl
    subst this
    go_wp2
    go_ret
    exact ⟨rfl, rfl⟩
  | true =>
    have hu2 : b.toList.isEmpty = u := by rw [← hu]; rfl
    clear hu
    go_wp2
    go_ret
    exact ⟨rfl, rfl⟩

set_option maxRecDepth 100000 in
set_option maxHeartbeats 1000000 in
theorem over_val (part : ByteArray) (w : World) (hp : part.size ≤ maxLen) :
    Calls Tryz.prog 48 #[.string part] w fun e w' => ∃ bl bs, e = .returned (.tuple #[.func (.func 70) #[] #[.pointer (some ⟨bl, 0, none⟩), .pointer (some ⟨bs, 0, none⟩)], .func (.func 72) #[] #[.pointer (some ⟨bl, 0, none⟩), .pointer (some ⟨bs, 0, none⟩)], .func (.func 73) #[] #[.pointer (some ⟨bs, 0, none⟩), .pointer (some ⟨bl, 0, none⟩)]]) ∧ Bx w' bl bs (part, true) ∧ w.heap.size ≤ bl ∧ w.heap.size ≤ bs ∧ Below w.heap.size w w' := by
  have hst := run_store_str
  have HB : Hid (∀ t1 t2 : TypeId, Bx ((w.alloc (.cells #[.string part] t1)).alloc (.cells #[.bool true] t2)) w.heap.size (w.heap.size + 1) (part, true)) := fun t1 t2 => by
    have e : (w.alloc (.cells #[.string part] t1)).heap.size = w.heap.size + 1 := by simp
    have c0 : (w.alloc (.cells #[.string part] t1)).cell? ⟨w.heap.size, 0, none⟩ = some (.string part) := World.cell?_alloc_new w _ _ 0
    have f0 : (w.alloc (.cells #[.string part] t1)).frozen? ⟨w.heap.size, 0, none⟩ = false := World.frozen?_alloc_new w _ _ 0
    have c1 : ((w.alloc (.cells #[.string part] t1)).alloc (.cells #[.bool true] t2)).cell? ⟨w.heap.size + 1, 0, none⟩ = some (.bool true) := by
      have h := World.cell?_alloc_new (w.alloc (.cells #[.string part] t1)) #[.bool true] t2 0
      rwa [e] at h
    have f1 : ((w.alloc (.cells #[.string part] t1)).alloc (.cells #[.bool true] t2)).frozen? ⟨w.heap.size + 1, 0, none⟩ = false := by
      have h := World.frozen?_alloc_new (w.alloc (.cells #[.string part] t1)) #[.bool true] t2 0
      rwa [e] at h
    exact ⟨bel_cell (bel_al _ _) c0, c1, Stay.frozen (Stay.of_below (O := fun _ => False) (bel_al _ _)) c0 f0 id, f1, by omega, hp⟩
  go_enter Tryz.func48, Tryz.ntmps48
  go_wp2
  refine bodyPost_ret (v := .tuple #[.func (.func 70) #[] #[.pointer (some ⟨w.heap.size, 0, none⟩), .pointer (some ⟨w.heap.size + 1, 0, none⟩)], .func (.func 72) #[] #[.pointer (some ⟨w.heap.size, 0, none⟩), .pointer (some ⟨w.heap.size + 1, 0, none⟩)], .func (.func 73) #[] #[.pointer (some ⟨w.heap.size + 1, 0, none⟩), .pointer (some ⟨w.heap.size, 0, none⟩)]]) ?_ rfl ⟨_, _, rfl, HB.out _ _, Nat.le_refl _, by omega, bel_tr (bel_al _ _) (bel_al _ _)⟩
  simp only [results, Tryz.results48]
  simp [go_sem]

end Go.Proofs.YtigomhilcnnjdaaGreat.Img

/- The contract of image.opened. -/
namespace Go.Proofs.YtigomhilcnnjdaaGreat.Img
open Go.RowKit Go.Proofs.YtigomhilcnnjdaaGreat Go.Proofs.YtigomhilcnnjdaaGreat.Smm
open Go.Proofs.YtigomhilcnnjdaaGreat.Edi (bel_tr bel_al bel_cell bel_drew)
open Go.Proofs.YtigomhilcnnjdaaGreat.Wir (app_assoc app_size app_list size_list)
open Go.WideShapes (bytes_inj)

structure OpenedR (ps : List ByteArray) (E : Nat) (e : Ending) (w' : World) : Prop where
  ex : ∃ a b n c, e = .returned (.tuple #[.slice a n c, .int .i64 (E : Int)]) ∧ ps.length = n ∧ n ≤ c ∧ c ≤ maxLen ∧ Strs w' a b 0 ps
def restP (ps : List ByteArray) (r : ByteArray) (i : Nat) : ByteArray := joinP (ps.drop i) ++ r
theorem restP_next (ps : List ByteArray) (r : ByteArray) (i : Nat) (hi : i < ps.length) : restP ps r i = sealB ps[i] ++ restP ps r (i + 1) := by
  unfold restP
  rw [List.drop_eq_getElem_cons hi, joinP_cons, app_assoc]
theorem restP_end (ps : List ByteArray) (r : ByteArray) : restP ps r ps.length = r := by
  unfold restP
  rw [List.drop_length]
  exact bytes_inj (by rw [app_list]; rfl)
theorem cel_room {O : Nat → Prop} {w : World} {size : Nat} {a : Option Addr} {n c : Nat} {cs : List Value} {g : Option Nat} (h : Cel O w size (.slice a n c) n cs g) : n ≤ c ∧ c ≤ maxLen := by
  cases h with
  | nil h1 h2 h3 => cases h1; exact ⟨Nat.le_refl _, Nat.zero_le _⟩
  | row g cap h1 hl h2 h3 h4 h5 h6 h7 => cases h1; exact ⟨h4, h5⟩
theorem grow_own {base : Nat} {w w' : World} {size : Nat} {sl : Value} {n : Nat} {cs : List Value} {g : Option Nat} (h : Cel (Grow (fun k => base ≤ k) w w') w' size sl n cs g) (hb : base ≤ w.heap.size) : Cel (fun k => base ≤ k) w' size sl n cs g :=
  h.stay (Nat.le_refl _) (fun _ _ => rfl) (fun _ hk => hk.elim id (fun e => Nat.le_trans hb e.1))
theorem cel_below {base : Nat} {w w' w0 : World} {size : Nat} {sl : Value} {n : Nat} {cs : List Value} {g : Option Nat} (h : Cel (fun k => base ≤ k) w size sl n cs g) (hS : Stay (fun k => g = some k) w w') (hb : base ≤ w.heap.size) (h0 : Below base w0 w) : Below base w0 w' :=
  h0.trans (hS.below hb (fun k hk => by rw [hk] at h; exact h.lt.2))

set_option maxRecDepth 100000 in
set_option maxHeartbeats 2000000 in
theorem opened_val {ps : List ByteArray} {r : ByteArray} (hS : Small ps) (b : ByteArray) (hb : b = restP ps r 0) (w : World) (hsz : b.size ≤ maxLen) (hn : ps.length ≤ 1000000000) (E : Nat) (hE : (r.size = 0 ∧ E = 0) ∨ BadAt r E) :
    Calls Tryz.prog 10 #[.string b] w fun e w' => OpenedR (if E = 0 then ps else []) E e w' ∧ Below w.heap.size w w' := by
  obtain ⟨ti, hi1, hi2, hi3, hi4⟩ := strRow
  have HS : Hid (Small ps) := hS
  have HBM : Hid (∀ i, i ≤ ps.length → (restP ps r i).size ≤ maxLen) := by
    intro i
    induction i with
    | zero => intro _; rw [← hb]; exact hsz
    | succ i ih =>
      intro hi
      have h1 := ih (by omega)
      rw [restP_next ps r i (by omega), app_size] at h1
      omega
  have HE : Hid ((r.size = 0 ∧ E = 0) ∨ BadAt r E) := hE
  subst hb
  clear hS hE hsz
  go_enter Tryz.func10, Tryz.ntmps10
  go_wp2
  go_loopg [0, 4] ps.length (fun gh v0 v4 wr => ∃ (i : Nat) (fa : Option Addr) (fc : Nat) (g : Option Nat), i + gh = ps.length ∧ v0 = .string (restP ps r i) ∧ v4 = .slice fa i fc ∧ Cel (fun k => w.heap.size ≤ k) wr 1 (.slice fa i fc) i (rowC strC (ps.take i)) g ∧ Below w.heap.size w wr)
  case atStart => exact ⟨0, none, 0, none, by omega, rfl, rfl, .nil rfl rfl rfl, Below.refl _ _⟩
  case round =>
    obtain ⟨i, fa, fc, g, hig, rfl, rfl, hC, hbl⟩ := hrel
    have HC : Hid (Cel (fun k => w.heap.size ≤ k) wr 1 (.slice fa i fc) i (rowC strC (ps.take i)) g) := hC
    have HB : Hid (Below w.heap.size w wr) := hbl
    clear hC hbl
    by_cases hlt : i < ps.length
    · have hnx := restP_next ps r i hlt
      have hm := HBM.out i (by omega)
      have hop : openT (restP ps r i) = (ps[i], restP ps r (i + 1), 0) := by rw [hnx]; exact open_back _ _ (HS.out _ (List.getElem_mem hlt))
      have hpos : (restP ps r i).toList.isEmpty = false := by
        rw [Bool.eq_false_iff]
        intro e
        have h2 := congrArg ByteArray.size ((empty_iff _).1 e)
        rw [hnx, app_size] at h2
        have h3 := sealB_pos ps[i]
        have h4 : (⟨#[]⟩ : ByteArray).size = 0 := rfl
        omega
      have HT : Hid (rowC strC (ps.take (i + 1)) = rowC strC (ps.take i) ++ rowC strC [ps[i]]) := by
        show rowC strC (ps.take (i + 1)) = _
        rw [List.take_succ_eq_append_getElem hlt, rowC_app]
      have CO : Hid (∀ W, Calls Tryz.prog 22 #[.string (restP ps r i)] W fun e w' => e = .returned (.tuple #[.string ps[i], .string (restP ps r (i + 1)), .int .i64 ((0 : Nat) : Int)]) ∧ Below W.heap.size W w') := fun W => open_any _ _ _ 0 W hm hop
      generalize restP ps r i = cur at *
      generalize hnb : restP ps r (i + 1) = nxt at *
      have HNB : Hid (restP ps r (i + 1) = nxt) := hnb
      generalize ps[i] = p at *
      clear hnx hm hop hnb
      go_wp2_with fail
      refine (CO.out _).mono ?_
      rintro e w1 ⟨rfl, b1⟩
      have B1 : Hid (Below wr.heap.size wr w1) := b1
      clear b1 CO
      go_wp2_with (at_builtin; refine wpList_append_cel _ rfl _ _ 37 37 rfl 9 ti _ 1 16 Tryz.underlying37 hi1 hi2 hi3 hi4 rfl (O := fun k => w.heap.size ≤ k) _ i _ g rfl ((HC.out.below B1.out).below (bel_al _ _)) _ 1 (rowC strC [p]) rfl (src_new1 w1 p) (by unfold maxLen; omega) (by omega) ?_; intro a2 c2 w2 g2 hC2 hS2 hg2; have A2 : Hid _ := grow_own hC2 (by have := HB.out.size; have := B1.out.size; simp; omega); have B2 : Hid _ := cel_below ((HC.out.below B1.out).below (bel_al _ _)) hS2 (by have := HB.out.size; have := B1.out.size; simp; omega) (bel_tr HB.out (bel_tr B1.out (bel_al _ _))); clear hC2 hS2 hg2)
      go_roundg (ps.length - (i + 1))
      case measure => omega
      case rel => exact ⟨i + 1, a2, c2, g2, by omega, by rw [HNB.out], rfl, by rw [HT.out]; exact A2.out, B2.out⟩
    · obtain rfl : i = ps.length := by omega
      have hend := restP_end ps r
      have hm := HBM.out _ (Nat.le_refl ps.length)
      rw [hend] at hm ⊢
      rcases HE.out with ⟨hr0, rfl⟩ | hbad
      · have hr1 : r.data.toList.length = 0 := by rw [size_list]; exact hr0
        have hr2 : r = ⟨#[]⟩ := bytes_inj (by rw [List.length_eq_zero_iff.1 hr1])
        have hpos : r.toList.isEmpty = true := (empty_iff r).2 hr2
        clear hr1 hr2
        obtain ⟨hc1, hc2⟩ := cel_room HC.out
        have hst : ∃ b, Strs wr fa b 0 ps := by
          have h1 := HC.out
          rw [List.take_length] at h1
          exact h1.strs rfl (fun s hs => by have := HS.out s hs; unfold maxLen; omega)
        obtain ⟨b0, hst⟩ := hst
        have HST : Hid (Strs wr fa b0 0 ps) := hst
        have HC1 : Hid (ps.length ≤ fc) := hc1
        have HC2 : Hid (fc ≤ maxLen) := hc2
        clear hst hc1 hc2 hm hend hlt hr0 HC
        go_wp2
        go_ret2
        exact ⟨⟨fa, b0, ps.length, fc, rfl, rfl, HC1.out, HC2.out, HST.out⟩, HB.out⟩
      · have hpos : r.toList.isEmpty = false := by
          rw [Bool.eq_false_iff]
          intro e
          exact hbad.pos (congrArg ByteArray.size ((empty_iff _).1 e))
        have hop := hbad.empty
        have hne := hbad.ne
        have hneI : ((E : Int) != 0) = true := by simp; omega
        have CO : Hid (∀ W, Calls Tryz.prog 22 #[.string r] W fun e w' => e = .returned (.tuple #[.string ⟨#[]⟩, .string ⟨#[]⟩, .int .i64 (E : Int)]) ∧ Below W.heap.size W w') := fun W => open_any _ _ _ E W hm hop
        have HIF : Hid ((if E = 0 then ps else []) = []) := if_neg hne
        have hneB : (E == 0) = false := by simpa using hne
        clear hm hend hlt hop hbad HC
        go_wp2_with fail
        refine (CO.out _).mono ?_
        rintro e w1 ⟨rfl, b1⟩
        have B1 : Hid (Below wr.heap.size wr w1) := b1
        clear b1 CO
        go_wp2
        go_ret2
        try rw [HIF.out]
        exact ⟨⟨none, 0, 0, 0, rfl, rfl, Nat.le_refl _, Nat.zero_le _, fun hp => by simp at hp, fun j hj => by simp at hj, by simp, by simp⟩, bel_tr HB.out B1.out⟩

end Go.Proofs.YtigomhilcnnjdaaGreat.Img

/- The contract of space.complete. -/
namespace Go.Proofs.YtigomhilcnnjdaaGreat.Spa
open Go.RowKit Go.Proofs.YtigomhilcnnjdaaGreat
open Go.Proofs.YtigomhilcnnjdaaGreat.Lea (LS Ls findX putL renX LL LO LsR lsC wideL)
open Go.Proofs.YtigomhilcnnjdaaGreat.Edi (Ed Nm EdAt edV)

section
variable {base M0 S : Nat} {w w' : World} {s : Sp} {N L : RS} {ps : List NR} {gb : Nat} {gl : Option Nat}

theorem rowC_same {ps : List NR} {i : Nat} (hi : i < ps.length) (y : NR) (hy : ndC y = ndC ps[i]) : rowC ndC (ps.set i y) = rowC ndC ps := by
  have e : ps.set i y = ps.take i ++ y :: ps.drop (i + 1) := by rw [List.set_eq_take_append_cons_drop, if_pos hi]
  have e2 : ps = ps.take i ++ ps[i] :: ps.drop (i + 1) := by rw [← List.drop_eq_getElem_cons hi, List.take_append_drop]
  rw [e]
  conv => rhs; rw [e2]
  rw [rowC_app, rowC_app, rowC_cons, rowC_cons, hy]

theorem SpC.ns {w : World} {b : Nat} {s : Sp} {N L : RS} (h : SpC w b s N L) (ns : NS) (ls : LS) : SpC w b ⟨s.tx, s.nb, s.ng, s.now, ns, ls⟩ N L := ⟨h.c0, h.c1, h.c2, h.c3, h.c4, h.c5, h.fr⟩

theorem set_snd {ps : List NR} {i : Nat} (hi : i < ps.length) {y : Nd} {x : NR} (hx : x ∈ ps.set i (y, ps[i].2)) : ∃ z ∈ ps, x.2 = z.2 := by
  rcases List.mem_or_eq_of_mem_set hx with h | rfl
  · exact ⟨x, h, rfl⟩
  · exact ⟨ps[i], List.getElem_mem hi, rfl⟩
/-- Its blocks are others now. -/
theorem Pre.setBs (h : Pre base M0 S w s N L ps gb gl) {i : Nat} (hi : i < ps.length) (bs : List Blk) (hF : Free base w' (withBs ps[i].1 bs, ps[i].2)) (hS : Stay (fun k => ps[i].2.blk = some k) w w') :
    Pre base M0 S w' ⟨s.tx, s.nb, s.ng, s.now, s.ns.set i (withBs ps[i].1 bs), s.ls⟩ N L (ps.set i (withBs ps[i].1 bs, ps[i].2)) gb gl := by
  have hmi : ps[i] ∈ ps := List.getElem_mem hi
  have hC : Cel (fun k => base ≤ k) w' 5 (.slice N.a N.n N.c) N.n (rowC ndC (ps.set i (withBs ps[i].1 bs, ps[i].2))) (some gb) := by
    rw [rowC_same hi (withBs ps[i].1 bs, ps[i].2) rfl]
    exact h.own.lot.cel.stay hS.size (fun k hk => hS.block k (by cases hk; exact h.own.lot.cel.lt.1) (fun e => h.own.lot.ap _ hmi k hk e)) (fun _ e => e)
  refine ⟨(h.c.keep hS (fun e => ?_)).ns _ _, h.own.upd hi _ hC hF hS (fun k _ e => .inr e) (fun k hk => .inl hk), h.na, h.sb, Nat.le_trans h.bw hS.size, h.m1, h.m2, fun z hz k hk => (by obtain ⟨u, hu, e⟩ := set_snd hi hz; exact h.m3 u hu k (by rw [← e]; exact hk)), Nat.le_trans h.mw hS.size⟩
  have := (h.own.lot.ok _ hmi).blk_ge S e
  have := h.sb
  omega
theorem Pre.setF (h : Pre base M0 S w s N L ps gb gl) {i : Nat} (hi : i < ps.length) (o : Nat) (ho : o < 5) (v : Value) (y : Nd) (hy : ∀ j, (ndC (y, ps[i].2))[j]? = if j = o then some v else (ndC ps[i])[j]?) (hb : y.bs = ps[i].1.bs) (hp : y.path.size ≤ maxLen) :
    Pre base M0 S (w.setCell ⟨gb, i * 5 + o, none⟩ v) ⟨s.tx, s.nb, s.ng, s.now, s.ns.set i y, s.ls⟩ N L (ps.set i (y, ps[i].2)) gb gl ∧ Stay (fun k => k = gb) w (w.setCell ⟨gb, i * 5 + o, none⟩ v) := by
  have hmi : ps[i] ∈ ps := List.getElem_mem hi
  have hS : Stay (fun k => k = gb) w (w.setCell ⟨gb, i * 5 + o, none⟩ v) := Stay.setCell _ _ _ rfl
  have hF0 := Stay.free (h.own.lot.ok _ hmi) hS (fun k hk e => by subst e; exact h.own.lot.ap _ hmi k rfl hk)
  have hF : Free base (w.setCell ⟨gb, i * 5 + o, none⟩ v) (y, ps[i].2) := by
    refine ⟨⟨hp, ?_⟩, hF0.own⟩
    show Blks _ ps[i].2 y.bs
    rw [hb]; exact hF0.ok.bs
  refine ⟨⟨(h.c.keep hS (fun e => ?_)).ns _ _, h.own.upd hi _ (Cel.setF h.own.lot.cel h.own.lot.len hi o ho v _ hy) hF hS (fun k _ e => .inl e) (fun k hk => .inl hk), h.na, h.sb, Nat.le_trans h.bw hS.size, h.m1, h.m2, fun z hz k hk => (by obtain ⟨u, hu, e⟩ := set_snd hi hz; exact h.m3 u hu k (by rw [← e]; exact hk)), Nat.le_trans h.mw hS.size⟩, hS⟩
  have := h.own.lot.cel.lt.2
  have := h.sb
  omega
theorem Pre.lt (h : Pre base M0 S w s N L ps gb gl) : gb < w.heap.size ∧ base ≤ gb ∧ S < w.heap.size ∧ gb < M0 ∧ M0 ≤ w.heap.size := ⟨h.own.lot.cel.lt.1, h.own.lot.cel.lt.2, World.block_lt_of_cell? _ _ h.c.c0, h.m1, h.mw⟩

theorem Pre.bs' (h : Pre base M0 S w s N L ps gb gl) {i : Nat} {x : Nd} {r : RS} (hX : ps[i]? = some (x, r)) (bs : List Blk) (hF : Free base w' (withBs x bs, r)) (hS : Stay (fun k => r.blk = some k) w w') :
    Pre base M0 S w' ⟨s.tx, s.nb, s.ng, s.now, s.ns.set i (withBs x bs), s.ls⟩ N L (ps.set i (withBs x bs, r)) gb gl := by
  obtain ⟨hi, e⟩ := List.getElem?_eq_some_iff.1 hX
  have e1 : ps[i].1 = x := by rw [e]
  have e2 : ps[i].2 = r := by rw [e]
  have := h.setBs (w' := w') hi bs (by rw [e1, e2]; exact hF) (by rw [e2]; exact hS)
  rw [e1, e2] at this
  exact this
theorem Pre.f' (h : Pre base M0 S w s N L ps gb gl) {i : Nat} {x : Nd} {r : RS} (hX : ps[i]? = some (x, r)) (o : Nat) (ho : o < 5) (v : Value) (y : Nd) (hy : ∀ j, (ndC (y, r))[j]? = if j = o then some v else (ndC (x, r))[j]?) (hb : y.bs = x.bs) (hp : y.path.size ≤ maxLen) :
    Pre base M0 S (w.setCell ⟨gb, i * 5 + o, none⟩ v) ⟨s.tx, s.nb, s.ng, s.now, s.ns.set i y, s.ls⟩ N L (ps.set i (y, r)) gb gl ∧ Stay (fun k => k = gb) w (w.setCell ⟨gb, i * 5 + o, none⟩ v) := by
  obtain ⟨hi, e⟩ := List.getElem?_eq_some_iff.1 hX
  have e1 : ps[i].1 = x := by rw [e]
  have e2 : ps[i].2 = r := by rw [e]
  have := h.setF hi o ho v y (by rw [e2, e]; exact hy) (by rw [e1]; exact hb) hp
  rw [e2] at this
  exact this
theorem Lies.at' {w : World} {S gb n c : Nat} {ps : List NR} (h : Lies w S gb n c ps) {i : Nat} {X : NR} (hX : ps[i]? = some X) : NdAt w gb i X := by
  obtain ⟨hi, rfl⟩ := List.getElem?_eq_some_iff.1 hX
  exact h.at hi
theorem is_at' {ps : List NR} {p : ByteArray} {i : Nat} {x : Nd} (hi : Is (ps.map (·.1)) p i x) : ∃ r, ps[i]? = some (x, r) := by
  obtain ⟨h1, h2⟩ := is_at hi
  exact ⟨ps[i].2, by rw [List.getElem?_eq_getElem h1, ← h2]⟩
theorem set_at' {ps : List NR} {i : Nat} {X : NR} (hX : ps[i]? = some X) (Y : NR) : (ps.set i Y)[i]? = some Y := by
  obtain ⟨hi, _⟩ := List.getElem?_eq_some_iff.1 hX
  rw [List.getElem?_set_self hi]
theorem Pre.free' (h : Pre base M0 S w s N L ps gb gl) {i : Nat} {X : NR} (hX : ps[i]? = some X) : Free base w X ∧ X.2.blk ≠ some gb ∧ i < N.n ∧ 0 < ps.length ∧ ∀ o, o < 5 → w.frozen? ⟨gb, i * 5 + o, none⟩ = false := by
  have hm := List.mem_of_getElem? hX
  obtain ⟨hi, _⟩ := List.getElem?_eq_some_iff.1 hX
  have hl := h.own.lot.len
  have hcap := h.own.lot.cel.cap2.1
  refine ⟨h.own.lot.ok _ hm, fun e => h.own.lot.ap _ hm gb rfl e, by omega, by omega, fun o ho => ?_⟩
  have h5 : (i + 1) * 5 ≤ N.c * 5 := Nat.mul_le_mul_right _ (by omega)
  exact (h.own.lot.cel.live (i * 5 + o) (by omega)).2
theorem Pre.m (h : Pre base M0 S w s N L ps gb gl) : (∀ k, some gb = some k → k < w.heap.size) ∧ (∀ k, gl = some k → k < w.heap.size) ∧ (∀ x ∈ ps, ∀ k, x.2.blk = some k → k < w.heap.size) := ⟨h.own.m.lt1, h.own.m.lt2, h.own.m.lt3⟩
theorem set_blk {ps : List NR} {i : Nat} {x y : Nd} {r : RS} (hX : ps[i]? = some (x, r)) {M : Nat} (h : ∀ x ∈ ps, ∀ k, x.2.blk = some k → k < M) : ∀ z ∈ ps.set i (y, r), ∀ k, z.2.blk = some k → k < M := fun z hz k hk => by
  rcases List.mem_or_eq_of_mem_set hz with hz | rfl
  · exact h z hz k hk
  · exact h (x, r) (List.mem_of_getElem? hX) k hk

theorem OwnM.out2 {base M : Nat} {O : Nat → Prop} {w w' : World} {s : Sp} {N L : RS} {ps : List NR} {g gl : Option Nat} (h : OwnM base M w s N L ps g gl) (hs : Stay O w w') (h1 : ∀ k, g = some k → ¬ O k) (h2 : ∀ k, gl = some k → ¬ O k) (h3 : ∀ x ∈ ps, ∀ k, x.2.blk = some k → ¬ O k) : OwnM base M w' s N L ps g gl := by
  have hg : ∀ k, g = some k → k < w.heap.size ∧ base ≤ k := fun k hk => by have := h.lot.cel; rw [hk] at this; exact this.lt
  have ho := h.lo.own
  exact ⟨h.lot.stay hs.size (fun k hk => hs.block k (hg k hk).1 (h1 k hk)) (fun x hx k hk => hs.block k ((h.lot.ok x hx).ok.bs.lt k hk) (h3 x hx k hk)), h.map, ⟨h.lo.cel.stay hs.size (fun k hk => hs.block k (ho k hk).1 (h2 k hk)) (fun _ e => e), h.lo.len⟩, h.gl1, h.gl2, h.lt1, h.lt2, h.lt3⟩
/-- Where all of it lies ahead of M. -/
theorem Own.at {base M : Nat} {w : World} {s : Sp} {N L : RS} {ps : List NR} {g gl : Option Nat} (h : Own base w s N L ps g gl) (h1 : ∀ k, g = some k → k < M) (h2 : ∀ k, gl = some k → k < M) (h3 : ∀ x ∈ ps, ∀ k, x.2.blk = some k → k < M) : OwnM base M w s N L ps g gl :=
  ⟨h.lot, h.map, h.lo, h.gl1, h.gl2, h1, h2, h3⟩
end

/-- The end of an edit with an answer: the answer is laid down. -/
theorem DoneR.mk2 {S base M0 M : Nat} {w w4 : World} {t : Sp} {N L : RS} {ps : List NR} {g gl : Option Nat} {b : Blk} {x : Nd} {sx : RS} {B : Nat} {E0 : Int} {b0 : Blk} {T0 : RS} {x0 : NR} {n0 : Int} (hA : AnC w4 B E0 b0 T0 x0 n0) (hC : SpC w4 S t N L) (hO : OwnM base M w4 t N L ps g gl) (hF : Free M w4 (x, sx)) (hM : base ≤ M) (hst : Stay (Chg S base M0) w w4) (hB : w.heap.size ≤ B) (_hbw : base ≤ w.heap.size) (hS : S < w.heap.size)
    (h1 : ∀ k, g = some k → k ≠ B ∧ (k < M0 ∨ w.heap.size ≤ k)) (h2 : ∀ k, gl = some k → k ≠ B ∧ (k < M0 ∨ w.heap.size ≤ k)) (h3 : ∀ x ∈ ps, ∀ k, x.2.blk = some k → k ≠ B ∧ (k < M0 ∨ w.heap.size ≤ k)) (h4 : ∀ k, sx.blk = some k → k ≠ B ∧ w.heap.size ≤ k) :
    AnC (put11 w4 B 0 b noS (x, sx) 0) B 0 b noS (x, sx) 0 ∧ DoneR S base M0 t b x w (.returned (anV 0 b noS (x, sx) 0)) (put11 w4 B 0 b noS (x, sx) 0) := by
  obtain ⟨a1, a2⟩ := put11_at hA 0 b noS (x, sx) 0
  refine ⟨a1, ⟨N, L, ps, g, gl, M, sx, rfl, hC.keep a2 (by omega), hO.out2 a2 (fun k hk => (h1 k hk).1) (fun k hk => (h2 k hk).1) (fun x hx k hk => (h3 x hx k hk).1), Stay.free hF a2 (fun k hk => (h4 k hk).1), hM, ⟨fun k hk => (h1 k hk).2, fun k hk => (h2 k hk).2, fun x hx k hk => (h3 x hx k hk).2⟩, fun k hk => (h4 k hk).2⟩, hst.trans a2 (fun k hk e => ?_)⟩
  omega

end Go.Proofs.YtigomhilcnnjdaaGreat.Spa

/- The contracts of space.complete (refused), reopen. -/
namespace Go.Proofs.YtigomhilcnnjdaaGreat.Spa
open Go.RowKit Go.Proofs.YtigomhilcnnjdaaGreat
open Go.Proofs.YtigomhilcnnjdaaGreat.Lea (LS Ls findX putL renX LL LO LsR lsC wideL)
open Go.Proofs.YtigomhilcnnjdaaGreat.Edi (Ed Nm EdAt edV)

/-- An edit that can't be made. -/
structure LeftR (S base M0 : Nat) (E : Int) (w : World) (r : Ending) (w' : World) : Prop where
  eq : r = leftV E
  st : Stay (Chg S base M0) w w'
  c : ∀ s N L, SpC w S s N L → ∃ s' N' L', SpC w' S s' N' L'
theorem LeftR.of {S base M0 : Nat} {E : Int} {w w' : World} (hb : Below w.heap.size w w') : LeftR S base M0 E w (leftV E) w' := ⟨rfl, Stay.of_below hb, fun s N L h => ⟨s, N, L, h.below hb⟩⟩
/-- A panic leaves a function. -/
theorem left_post {P : Program} {fn : Func} {S base M0 : Nat} {E : Int} {w w' : World} {a : Act} (ha : a.defers = []) (h : LeftR S base M0 E w (leftV E) w') : bodyPost P fn (fun r w' => LeftR S base M0 E w r w') (.panic [{ v := .iface 27 (.int .i64 E), recovered := false }]) a w' := ⟨ha, h⟩

end Go.Proofs.YtigomhilcnnjdaaGreat.Spa

/- The contract of space.renewLease. -/
namespace Go.Proofs.YtigomhilcnnjdaaGreat.Spa
open Go.RowKit Go.Proofs.YtigomhilcnnjdaaGreat
open Go.Proofs.YtigomhilcnnjdaaGreat.Lea (LS Ls findX putL renX LL LO LsR lsC wideL)
open Go.Proofs.YtigomhilcnnjdaaGreat.Edi (Ed Nm EdAt edV)

/-- One word of a space is written. -/
theorem SpC.set5 {w : World} {S : Nat} {s : Sp} {N L : RS} (h : SpC w S s N L) (L' : RS) (ls : LS) : SpC (w.setCell ⟨S, 5, none⟩ (.slice L'.a L'.n L'.c)) S ⟨s.tx, s.nb, s.ng, s.now, s.ns, ls⟩ N L' ∧ Stay (fun k => k = S) w (w.setCell ⟨S, 5, none⟩ (.slice L'.a L'.n L'.c)) :=
  ⟨⟨(other_cell _ _ _ _ _ (by omega)).trans h.c0, (other_cell _ _ _ _ _ (by omega)).trans h.c1, (other_cell _ _ _ _ _ (by omega)).trans h.c2, (other_cell _ _ _ _ _ (by omega)).trans h.c3, (other_cell _ _ _ _ _ (by omega)).trans h.c4, same_cell h.c5, fun j => by rw [World.frozen?_setCell]; exact h.fr j⟩, Stay.setCell _ _ _ rfl⟩
theorem SpC.set4 {w : World} {S : Nat} {s : Sp} {N L : RS} (h : SpC w S s N L) (N' : RS) (ns : NS) : SpC (w.setCell ⟨S, 4, none⟩ (.slice N'.a N'.n N'.c)) S ⟨s.tx, s.nb, s.ng, s.now, ns, s.ls⟩ N' L ∧ Stay (fun k => k = S) w (w.setCell ⟨S, 4, none⟩ (.slice N'.a N'.n N'.c)) :=
  ⟨⟨(other_cell _ _ _ _ _ (by omega)).trans h.c0, (other_cell _ _ _ _ _ (by omega)).trans h.c1, (other_cell _ _ _ _ _ (by omega)).trans h.c2, (other_cell _ _ _ _ _ (by omega)).trans h.c3, same_cell h.c4, (other_cell _ _ _ _ _ (by omega)).trans h.c5, fun j => by rw [World.frozen?_setCell]; exact h.fr j⟩, Stay.setCell _ _ _ rfl⟩
theorem SpC.set3 {w : World} {S : Nat} {s : Sp} {N L : RS} (h : SpC w S s N L) (v : Int) : SpC (w.setCell ⟨S, 3, none⟩ (.int .i64 v)) S ⟨s.tx, s.nb, s.ng, v, s.ns, s.ls⟩ N L ∧ Stay (fun k => k = S) w (w.setCell ⟨S, 3, none⟩ (.int .i64 v)) :=
  ⟨⟨(other_cell _ _ _ _ _ (by omega)).trans h.c0, (other_cell _ _ _ _ _ (by omega)).trans h.c1, (other_cell _ _ _ _ _ (by omega)).trans h.c2, same_cell h.c3, (other_cell _ _ _ _ _ (by omega)).trans h.c4, (other_cell _ _ _ _ _ (by omega)).trans h.c5, fun j => by rw [World.frozen?_setCell]; exact h.fr j⟩, Stay.setCell _ _ _ rfl⟩
theorem SpC.set2 {w : World} {S : Nat} {s : Sp} {N L : RS} (h : SpC w S s N L) (v : Int) : SpC (w.setCell ⟨S, 2, none⟩ (.int .i64 v)) S ⟨s.tx, s.nb, v, s.now, s.ns, s.ls⟩ N L ∧ Stay (fun k => k = S) w (w.setCell ⟨S, 2, none⟩ (.int .i64 v)) :=
  ⟨⟨(other_cell _ _ _ _ _ (by omega)).trans h.c0, (other_cell _ _ _ _ _ (by omega)).trans h.c1, same_cell h.c2, (other_cell _ _ _ _ _ (by omega)).trans h.c3, (other_cell _ _ _ _ _ (by omega)).trans h.c4, (other_cell _ _ _ _ _ (by omega)).trans h.c5, fun j => by rw [World.frozen?_setCell]; exact h.fr j⟩, Stay.setCell _ _ _ rfl⟩
theorem SpC.set1 {w : World} {S : Nat} {s : Sp} {N L : RS} (h : SpC w S s N L) (v : Int) : SpC (w.setCell ⟨S, 1, none⟩ (.int .i64 v)) S ⟨s.tx, v, s.ng, s.now, s.ns, s.ls⟩ N L ∧ Stay (fun k => k = S) w (w.setCell ⟨S, 1, none⟩ (.int .i64 v)) :=
  ⟨⟨(other_cell _ _ _ _ _ (by omega)).trans h.c0, same_cell h.c1, (other_cell _ _ _ _ _ (by omega)).trans h.c2, (other_cell _ _ _ _ _ (by omega)).trans h.c3, (other_cell _ _ _ _ _ (by omega)).trans h.c4, (other_cell _ _ _ _ _ (by omega)).trans h.c5, fun j => by rw [World.frozen?_setCell]; exact h.fr j⟩, Stay.setCell _ _ _ rfl⟩
theorem SpC.set0 {w : World} {S : Nat} {s : Sp} {N L : RS} (h : SpC w S s N L) (v : Int) : SpC (w.setCell ⟨S, 0, none⟩ (.int .i64 v)) S ⟨v, s.nb, s.ng, s.now, s.ns, s.ls⟩ N L ∧ Stay (fun k => k = S) w (w.setCell ⟨S, 0, none⟩ (.int .i64 v)) :=
  ⟨⟨same_cell h.c0, (other_cell _ _ _ _ _ (by omega)).trans h.c1, (other_cell _ _ _ _ _ (by omega)).trans h.c2, (other_cell _ _ _ _ _ (by omega)).trans h.c3, (other_cell _ _ _ _ _ (by omega)).trans h.c4, (other_cell _ _ _ _ _ (by omega)).trans h.c5, fun j => by rw [World.frozen?_setCell]; exact h.fr j⟩, Stay.setCell _ _ _ rfl⟩

/-- Leases are renewed. -/
structure RnwR (S : Nat) (s : Sp) (N : RS) (ys : LS) (w : World) (r : Ending) (w' : World) : Prop where
  ex : ∃ L' gl', r = .returned (.tuple #[]) ∧ SpC w' S ⟨s.tx, s.nb, s.ng, s.now, s.ns, ys⟩ N L' ∧ LO w.heap.size w' L'.a L'.n L'.c ys gl'
  st : Stay (fun k => k = S) w w'

end Go.Proofs.YtigomhilcnnjdaaGreat.Spa

/- The contracts of space.reopen, setQuota, renew. -/
namespace Go.Proofs.YtigomhilcnnjdaaGreat.Spa
open Go.RowKit Go.Proofs.YtigomhilcnnjdaaGreat
open Go.Proofs.YtigomhilcnnjdaaGreat.Lea (LS Ls findX putL renX LL LO LsR lsC wideL)
open Go.Proofs.YtigomhilcnnjdaaGreat.Edi (Ed Nm EdAt edV)

theorem OwnM.renew {base M S : Nat} {w w' : World} {s : Sp} {N L L' : RS} {ps : List NR} {g gl gl' : Option Nat} {ys : LS} (h : OwnM base M w s N L ps g gl) (hM : M ≤ w.heap.size) (hS : S < base) (hb : base ≤ w.heap.size) (hL : LO w.heap.size w' L'.a L'.n L'.c ys gl') (hst : Stay (fun k => k = S) w w') : OwnM base w'.heap.size w' ⟨s.tx, s.nb, s.ng, s.now, s.ns, ys⟩ N L' ps g gl' := by
  have h1 := h.out hst (fun k hk => .inl (by omega))
  have ho := hL.own
  have hs := hst.size
  exact ⟨h1.lot, h1.map, hL.mono hb, fun k hk e => by have := h.lt1 k hk; have := (ho k e).2; omega, fun x hx k hk e => by have := h.lt3 x hx k hk; have := (ho k e).2; omega, fun k hk => by have := h.lt1 k hk; omega, fun k hk => (ho k hk).1, fun x hx k hk => by have := h.lt3 x hx k hk; omega⟩

/-! ### quotas -/
end Go.Proofs.YtigomhilcnnjdaaGreat.Spa

/- The contracts of space.setQuota (refused), renew. -/
namespace Go.Proofs.YtigomhilcnnjdaaGreat.Spa
open Go.RowKit Go.Proofs.YtigomhilcnnjdaaGreat
open Go.Proofs.YtigomhilcnnjdaaGreat.Lea (LS Ls findX putL renX LL LO LsR lsC wideL)
open Go.Proofs.YtigomhilcnnjdaaGreat.Edi (Ed Nm EdAt edV)

end Go.Proofs.YtigomhilcnnjdaaGreat.Spa

/- The contract of space.add. -/
namespace Go.Proofs.YtigomhilcnnjdaaGreat.Spa
open Go.RowKit Go.Proofs.YtigomhilcnnjdaaGreat
open Go.Proofs.YtigomhilcnnjdaaGreat.Lea (LS Ls findX putL renX LL LO LsR lsC wideL)
open Go.Proofs.YtigomhilcnnjdaaGreat.Edi (Ed Nm EdAt edV)

theorem Pre.nl {base M0 S : Nat} {w : World} {s : Sp} {N L : RS} {ps : List NR} {gb : Nat} {gl : Option Nat} (h : Pre base M0 S w s N L ps gb gl) (hp : 0 < ps.length) : NL w (some ⟨gb, 0, none⟩) N.n s.ns := by
  have := (h.lies hp).nl
  rw [h.own.map] at this
  exact this
theorem Pre.c4' {base M0 S : Nat} {w : World} {s : Sp} {N L : RS} {ps : List NR} {gb : Nat} {gl : Option Nat} (h : Pre base M0 S w s N L ps gb gl) : w.cell? ⟨S, 4, none⟩ = some (.slice (some ⟨gb, 0, none⟩) N.n N.c) := by
  have := h.c.c4
  rw [h.na] at this
  exact this

/-- Other nodes are laid into the space. -/
theorem Pre.newNs {base M0 S : Nat} {w w1 : World} {s : Sp} {N L : RS} {ps : List NR} {gb : Nat} {gl : Option Nat} (h : Pre base M0 S w s N L ps gb gl) {W : Nat} (hW : w.heap.size ≤ W) (hb : Below w.heap.size w w1) {N' : RS} {ns : NS} (hX : LX W w1 N'.a N'.n N'.c ns) :
    ∃ ps' g', SpC (w1.setCell ⟨S, 4, none⟩ (.slice N'.a N'.n N'.c)) S ⟨s.tx, s.nb, s.ng, s.now, ns, s.ls⟩ N' L ∧ OwnM base w1.heap.size (w1.setCell ⟨S, 4, none⟩ (.slice N'.a N'.n N'.c)) ⟨s.tx, s.nb, s.ng, s.now, ns, s.ls⟩ N' L ps' g' gl ∧ Stay (fun k => k = S) w (w1.setCell ⟨S, 4, none⟩ (.slice N'.a N'.n N'.c)) ∧ (∀ k, g' = some k → w.heap.size ≤ k) ∧ (∀ x ∈ ps', ∀ k, x.2.blk = some k → w.heap.size ≤ k) := by
  obtain ⟨ps', g', hm, hl⟩ := hX.ex
  have hP := h.below hb
  have hsb := hP.sb
  have hbw := h.bw
  obtain ⟨a1, a2⟩ := hP.c.set4 N' ns
  have hgl := h.own.lo.own
  have hg : ∀ k, g' = some k → k < w1.heap.size ∧ W ≤ k := fun k hk => by have := hl.cel; rw [hk] at this; exact this.lt
  have hO : OwnM base w1.heap.size w1 ⟨s.tx, s.nb, s.ng, s.now, ns, s.ls⟩ N' L ps' g' gl :=
    ⟨hl.mono (by omega), hm, hP.own.lo, fun k hk e => by have := (hg k hk).2; have := (hgl k e).1; omega, fun x hx k hk e => by have := (hl.ok x hx).blk_ge k hk; have := (hgl k e).1; omega, fun k hk => (hg k hk).1, fun k hk => by have := (hgl k hk).1; have := hb.size; omega, fun x hx k hk => (hl.ok x hx).ok.bs.lt k hk⟩
  exact ⟨ps', g', a1, hO.out a2 (fun k hk => .inl (by omega)), (Stay.of_below hb).trans a2 (fun k _ e => e), fun k hk => Nat.le_trans hW (hg k hk).2, fun x hx k hk => Nat.le_trans hW ((hl.ok x hx).blk_ge k hk)⟩
/-- A node is added. -/
structure AddR (S base : Nat) (t : Sp) (L : RS) (gl : Option Nat) (w : World) (r : Ending) (w' : World) : Prop where
  ex : ∃ N ps g, r = .returned (.tuple #[]) ∧ SpC w' S t N L ∧ OwnM base w'.heap.size w' t N L ps g gl ∧ (∀ k, g = some k → w.heap.size ≤ k) ∧ (∀ x ∈ ps, ∀ k, x.2.blk = some k → w.heap.size ≤ k)
  st : Stay (fun k => k = S) w w'

theorem split_small {p : ByteArray} (h : splitE p = 0) : p.size ≤ 120 := by
  rw [splitX_ok h]; exact pathT_small (split_ok h).1
theorem parD_small {xs : NS} {x : Nd} (h : AddE xs x 0) : (parD x.path).size ≤ 120 := by
  cases h with
  | par e h1 h2 h3 h4 h5 h6 => exact absurd rfl h6
  | ok h1 h2 h3 h4 h5 h6 =>
    obtain ⟨d, n, _, hd, _, _, hE⟩ := par_ex (fits_path h2) h3
    rw [hd]; exact split_small hE
theorem setC_size (w : World) (a : Addr) (v : Value) : (w.setCell a v).heap.size = w.heap.size := by simp [World.setCell]

end Go.Proofs.YtigomhilcnnjdaaGreat.Spa

/- The contracts of space.create, rename. -/
namespace Go.Proofs.YtigomhilcnnjdaaGreat.Spa
open Go.RowKit Go.Proofs.YtigomhilcnnjdaaGreat
open Go.Proofs.YtigomhilcnnjdaaGreat.Lea (LS Ls findX putL renX LL LO LsR lsC wideL)
open Go.Proofs.YtigomhilcnnjdaaGreat.Edi (Ed Nm EdAt edV)

theorem noS_ok (w : World) (x : Nd) (hb : x.bs = []) (hs : x.path.size ≤ maxLen) : NdOk w (x, noS) := ⟨hs, by rw [hb]; rfl, Nat.zero_le _, fun _ => rfl, fun hp => absurd hp (Nat.lt_irrefl 0)⟩
theorem free_no (base : Nat) (w : World) (x : Nd) (hb : x.bs = []) (hs : x.path.size ≤ maxLen) : Free base w (x, noS) := ⟨noS_ok w x hb hs, fun hp => absurd hp (Nat.lt_irrefl 0)⟩
theorem stay_cell {O : Nat → Prop} {w w' : World} (hs : Stay O w w') {b j : Nat} {v : Value} (hO : ¬ O b) (hc : w.cell? ⟨b, j, none⟩ = some v) : w'.cell? ⟨b, j, none⟩ = some v :=
  (World.cell?_of_block (a := ⟨b, j, none⟩) (hs.block b (World.block_lt_of_cell? _ _ hc) hO)).trans hc
theorem LeftR.after {S base M0 : Nat} {E : Int} {w w1 w2 : World} {r : Ending} (hb : Below w.heap.size w w1) (h : LeftR S base M0 E w1 r w2) : LeftR S base M0 E w r w2 := ⟨h.eq, (Stay.of_below hb).then_same h.st, fun s N L hc => h.c s N L (hc.below hb)⟩

end Go.Proofs.YtigomhilcnnjdaaGreat.Spa

/- The contract of space.rename. -/
namespace Go.Proofs.YtigomhilcnnjdaaGreat.Spa
open Go.RowKit Go.Proofs.YtigomhilcnnjdaaGreat
open Go.Proofs.YtigomhilcnnjdaaGreat.Lea (LS Ls findX putL renX LL LO LsR lsC wideL)
open Go.Proofs.YtigomhilcnnjdaaGreat.Edi (Ed Nm EdAt edV)

end Go.Proofs.YtigomhilcnnjdaaGreat.Spa

/- The contract of space.bump. -/
namespace Go.Proofs.YtigomhilcnnjdaaGreat.Spa
open Go.RowKit Go.Proofs.YtigomhilcnnjdaaGreat
open Go.Proofs.YtigomhilcnnjdaaGreat.Lea (LS Ls findX putL renX LL LO LsR lsC wideL)
open Go.Proofs.YtigomhilcnnjdaaGreat.Edi (Ed Nm EdAt edV)

theorem stay_cel {O : Nat → Prop} {w w' : World} (hs : Stay O w w') {b j : Nat} {v : Value} (hO : ¬ O b) (hc : w.cell? ⟨b, j, none⟩ = some v) : w'.cell? ⟨b, j, none⟩ = some v :=
  (World.cell?_of_block (a := ⟨b, j, none⟩) (hs.block b (World.block_lt_of_cell? _ _ hc) hO)).trans hc

end Go.Proofs.YtigomhilcnnjdaaGreat.Spa

/- The contract of space.addBlock. -/
namespace Go.Proofs.YtigomhilcnnjdaaGreat.Spa
open Go.RowKit Go.Proofs.YtigomhilcnnjdaaGreat
open Go.Proofs.YtigomhilcnnjdaaGreat.Lea (LS Ls findX putL renX LL LO LsR lsC wideL)
open Go.Proofs.YtigomhilcnnjdaaGreat.Edi (Ed Nm EdAt edV)

/-- What is appended to a slice without room comes to lie in a new block. -/
theorem run_append_zero {P : Program} (w : World) (t tx ty e : TypeId) (i : TypeInfo) (z : Value) (size bytes : Nat) (ht : P.underlying t = some (.slice e)) (hi : P.info? e = some i) (hz : i.zero = some z) (hsize : i.size = size) (hby : i.bytes = bytes) (hzs : z.cells.size = size) (p : Option Addr)
    (x : Value) (m : Nat) (news : List Value) (hs : Src P size tx x m news w) (hm : 0 < m) (hlen : m ≤ maxLen) (hlb : m * bytes ≤ 140737488355328) :
    ∃ c' w', (Builtin.append_ #[t, tx] ty #[.slice p 0 0, x]).run P w = .ok (.slice (some ⟨w.heap.size, 0, none⟩) m c') w' ∧ Cel (fun k => w.heap.size ≤ k) w' size (.slice (some ⟨w.heap.size, 0, none⟩) m c') m news (some w.heap.size) ∧ Below w.heap.size w w' := by
  have hnl := hs.newsLen
  have hs' : Src P i.size tx x m news w := by rw [hsize]; exact hs
  have hold : (Builtin.firstCells i.size 0 (.slice p 0 0)).run P w.drew = .ok ([] : List Value).toArray w.drew := by
    cases p with
    | none => simp [Builtin.firstCells]
    | some ad => exact run_firstCells_some w.drew i.size 0 ad 0 0 [] (by simp) (fun j u hu => by simp at hu)
  have h63 : m ≤ 9223372036854775807 := by unfold maxLen at hlen; omega
  have hrun := run_append_grow_src (P := P) w t tx ty e i z ht hi hz p 0 0 [] hold x m news hs' (by omega) (by omega) (growslice_fits (by omega) (by rw [hby, Nat.zero_add]; exact hlb))
  rw [Nat.zero_add] at hrun
  have hge := grownCap_ge w m 0 e
  have hcm := grownCap_le_maxLen w m 0 e hlen
  generalize grownCap w m 0 e = c' at *
  rw [List.nil_append] at hrun
  have hsz : (news.toArray ++ Builtin.zeroCells z.cells (c' - m)).size = c' * size := by
    rw [Array.size_append, List.size_toArray, hnl, size_zeroCells, hzs, ← Nat.add_mul]
    congr 1; omega
  refine ⟨c', _, hrun, .row w.heap.size c' rfl hnl (Nat.le_refl _) (by simp) hge hcm (fun j hj => ?_) (fun j hj => ⟨?_, ?_⟩), bel_tr (bel_drewN w 1) (bel_al w.drew _)⟩
  · have e1 : (w.drew.alloc (.cells (news.toArray ++ Builtin.zeroCells z.cells (c' - m)) e)).cell? ⟨w.heap.size, j, none⟩ = _ := World.cell?_alloc_new w.drew _ _ j
    rw [e1, Array.getElem?_append_left (by rw [List.size_toArray]; exact hj), List.getElem?_toArray, List.getElem?_eq_getElem hj]
  · have e1 : (w.drew.alloc (.cells (news.toArray ++ Builtin.zeroCells z.cells (c' - m)) e)).cell? ⟨w.heap.size, j, none⟩ = _ := World.cell?_alloc_new w.drew _ _ j
    rw [e1, Array.getElem?_eq_getElem (by rw [hsz]; exact hj)]
    rfl
  · exact World.frozen?_alloc_new w.drew _ _ j

/-- A block more. -/
theorem append_blk {base : Nat} {w : World} {x : Nd} {s : RS} (hF : Free base w (x, s)) (hR : Rm w s) (hB : base ≤ w.heap.size) (h8 : s.n ≤ 8) (b : Blk) (xv : Value) (hs : Src Tryz.prog 3 53 xv 1 (blkC b) w) (ty : TypeId) :
    ∃ a' c' w' g', (Builtin.append_ #[53, 53] ty #[.slice s.a s.n s.c, xv]).run Tryz.prog w = .ok (.slice a' (s.n + 1) c') w' ∧ Cel (fun k => base ≤ k) w' 3 (.slice a' (s.n + 1) c') (s.n + 1) (rowC blkC (x.bs ++ [b])) g' ∧ Stay (fun k => s.blk = some k) w w' ∧ (∀ k, g' = some k → s.blk = some k ∨ w.heap.size ≤ k) := by
  obtain ⟨ti, hi1, hi2, hi3, hi4⟩ := blkRow
  have hl : x.bs.length = s.n := hF.ok.bs.len
  rcases Nat.eq_zero_or_pos s.n with h0 | h0
  · have hb0 : x.bs = [] := List.length_eq_zero_iff.1 (by omega)
    have hc := hR.z h0
    obtain ⟨c', w', hrun, hC, hBl⟩ := run_append_zero (P := Tryz.prog) w 53 53 ty 81 ti _ 3 24 Tryz.underlying53 hi1 hi2 hi3 hi4 rfl s.a xv 1 (blkC b) hs (by omega) (by unfold maxLen; omega) (by omega)
    refine ⟨some ⟨w.heap.size, 0, none⟩, c', w', some w.heap.size, ?_, ?_, Stay.of_below hBl, fun k hk => .inr (by cases hk; exact Nat.le_refl _)⟩
    · rw [h0, hc]; exact hrun
    · rw [h0, hb0, Nat.zero_add, List.nil_append, rowC_one]
      exact hC.stay (Nat.le_refl _) (fun _ _ => rfl) (fun k hk => Nat.le_trans hB hk)
  · obtain ⟨g, ha, hlv⟩ := hR.live h0
    have hblk : s.blk = some g := by unfold RS.blk; rw [if_neg (by omega), ha]; rfl
    have hC : Cel (fun k => base ≤ k) w 3 (.slice s.a s.n s.c) s.n (rowC blkC x.bs) (some g) := by
      rw [ha]
      refine .row g s.c rfl (by rw [rowC_len wideB, hl]) (hF.blk_ge g hblk) (hR.lt g hblk) hR.le hR.lid (fun j hj => ?_) hlv
      obtain ⟨b2, off2, h1, h2⟩ := hF.ok.bs.cells h0
      have h1' : s.a = some ⟨b2, off2, none⟩ := h1
      rw [ha] at h1'
      cases h1'
      have hj0 := hj
      rw [rowC_len wideB] at hj
      have e := rowC_at wideB x.bs (j / 3) (by omega) (j % 3) (by omega)
      have e2 : j / 3 * 3 + j % 3 = j := by omega
      rw [e2] at e
      rw [List.getElem?_eq_getElem hj0] at e
      have := h2 (j / 3) (by show j / 3 < x.bs.length; omega) (j % 3) _ e.symm
      rw [show 0 + j / 3 * 3 + j % 3 = j by omega] at this
      exact this
    obtain ⟨a', c', w', g', hrun, r1, r2, r3⟩ := run_append_cel (P := Tryz.prog) w 53 53 ty 81 ti _ 3 24 Tryz.underlying53 hi1 hi2 hi3 hi4 rfl hC xv 1 (blkC b) hs (by unfold maxLen; omega) (by omega)
    refine ⟨a', c', w', g', hrun, ?_, r2.mono (fun k hk => by rw [hblk]; exact hk), fun k hk => ?_⟩
    · rw [rowC_app, rowC_one]
      exact grow_base hB (fun k hk => hk) r1
    · rw [hblk]; exact r3 k hk

theorem step_append_blk {ops : Array Oper} {o : Oper} {a : Act} {w : World} {K : Act → World → Prop} {Q : Exit → Act → World → Prop} {F : Prop} (hgd : o.guard = none) (so xo : Operand)
    (ho : o.op = .call { callee := .builtin .append, args := #[so, xo], argTypes := #[53, 53] })
    {base : Nat} (x : Nd) (s : RS) (hv : a.eval so = .slice s.a s.n s.c) (hF : Free base w (x, s)) (hR : Rm w s) (hB : base ≤ w.heap.size) (h8 : s.n ≤ 8) (b : Blk) (xv : Value) (hxv : a.eval xo = xv) (hs : Src Tryz.prog 3 53 xv 1 (blkC b) w)
    (hK : ∀ a' c' w' g', Cel (fun k => base ≤ k) w' 3 (.slice a' (s.n + 1) c') (s.n + 1) (rowC blkC (x.bs ++ [b])) g' → Stay (fun k => s.blk = some k) w w' → (∀ k, g' = some k → s.blk = some k ∨ w.heap.size ≤ k) → K (a.put o.dst (.slice a' (s.n + 1) c')) w') :
    if Region.wanted o (yielded ops a.tmps) = true then Oper.wp Tryz.prog o a w K Q else F := by
  have hw : Region.wanted o (yielded ops a.tmps) = true := by simp [Region.wanted, hgd]
  rw [if_pos hw]
  obtain ⟨a', c', w', g', hrun, r1, r2, r3⟩ := append_blk hF hR hB h8 b xv hs o.type
  unfold Oper.wp
  simp [execOp, ho, resolve, invoke, builtin, hv, hxv, hrun, Result.andThen]
  exact hK a' c' w' g' r1 r2 r3

/-- One block as what is appended. -/
theorem src_blk (w : World) (b : Blk) (B : Nat) (hB : B = w.heap.size) : Src Tryz.prog 3 53 (.slice (some ⟨B, 0, none⟩) 1 1) 1 (blkC b) (w.alloc (.cells #[.int .i64 b.id, .int .i64 b.gen, .int .i64 b.len] 81)) := by
  subst hB
  refine Src.ofSlice _ Tryz.underlying53 ⟨w.heap.size, 0, none⟩ 1 1 _ rfl (fun j u hu => ?_) (fun u hu => wideB.one b u hu)
  rw [Addr.add_lit, Nat.zero_add]
  have := World.cell?_alloc_new w #[.int .i64 b.id, .int .i64 b.gen, .int .i64 b.len] 81 j
  rw [this, ← hu]
  unfold blkC
  simp


end Go.Proofs.YtigomhilcnnjdaaGreat.Spa

/- The contract of space.addBlock. -/
namespace Go.Proofs.YtigomhilcnnjdaaGreat.Spa
open Go.RowKit Go.Proofs.YtigomhilcnnjdaaGreat
open Go.Proofs.YtigomhilcnnjdaaGreat.Lea (LS Ls findX putL renX LL LO LsR lsC wideL)
open Go.Proofs.YtigomhilcnnjdaaGreat.Edi (Ed Nm EdAt edV)

theorem src_blkD (w : World) (b : Blk) : Src Tryz.prog 3 53 (.slice (some ⟨w.heap.size, 0, none⟩) 1 1) 1 (blkC b) (w.alloc (.cells #[.int .i64 b.id, .int .i64 b.gen, .int .i64 b.len] 81)).drew := by
  refine Src.ofSlice _ Tryz.underlying53 ⟨w.heap.size, 0, none⟩ 1 1 _ rfl (fun j u hu => ?_) (fun u hu => wideB.one b u hu)
  rw [Addr.add_lit, Nat.zero_add]
  have := World.cell?_alloc_new w #[.int .i64 b.id, .int .i64 b.gen, .int .i64 b.len] 81 j
  have e : (w.alloc (.cells #[.int .i64 b.id, .int .i64 b.gen, .int .i64 b.len] 81)).drew.cell? ⟨w.heap.size, j, none⟩ = _ := this
  rw [e, ← hu]
  unfold blkC
  simp

/-- A space at its own bound. -/
theorem preOf {base S : Nat} {W : World} {s : Sp} {N L : RS} {ps : List NR} {gb : Nat} {gl : Option Nat} (hc : SpC W S s N L) (ho : Own base W s N L ps (some gb) gl) (hna : N.a = some ⟨gb, 0, none⟩) (hsb : S < base) (hbw : base ≤ W.heap.size) : Pre base W.heap.size S W s N L ps gb gl :=
  ⟨hc, ho, hna, hsb, hbw, ho.lot.cel.lt.1, fun k hk => (ho.lo.own k hk).1, fun x hx k hk => (ho.lot.ok x hx).ok.bs.lt k hk, Nat.le_refl _⟩
theorem pre_ng {base M S : Nat} {W : World} {s : Sp} {N L : RS} {ps : List NR} {gb : Nat} {gl : Option Nat} (hP : Pre base M S W s N L ps gb gl) (v : Int) : Pre base M S (W.setCell ⟨S, 2, none⟩ (.int .i64 v)) ⟨s.tx, s.nb, v, s.now, s.ns, s.ls⟩ N L ps gb gl ∧ Stay (fun k => k = S) W (W.setCell ⟨S, 2, none⟩ (.int .i64 v)) := by
  obtain ⟨a1, a2⟩ := hP.c.set2 v
  have hsb := hP.sb
  have ho := hP.own.out a2 (fun k hk => by omega)
  exact ⟨⟨a1, ⟨ho.lot, ho.map, ho.lo, ho.sep, ho.gl1, ho.gl2⟩, hP.na, hP.sb, Nat.le_trans hP.bw a2.size, hP.m1, hP.m2, hP.m3, Nat.le_trans hP.mw a2.size⟩, a2⟩
theorem pre_nb {base M S : Nat} {W : World} {s : Sp} {N L : RS} {ps : List NR} {gb : Nat} {gl : Option Nat} (hP : Pre base M S W s N L ps gb gl) (v : Int) : Pre base M S (W.setCell ⟨S, 1, none⟩ (.int .i64 v)) ⟨s.tx, v, s.ng, s.now, s.ns, s.ls⟩ N L ps gb gl ∧ Stay (fun k => k = S) W (W.setCell ⟨S, 1, none⟩ (.int .i64 v)) := by
  obtain ⟨a1, a2⟩ := hP.c.set1 v
  have hsb := hP.sb
  have ho := hP.own.out a2 (fun k hk => by omega)
  exact ⟨⟨a1, ⟨ho.lot, ho.map, ho.lo, ho.sep, ho.gl1, ho.gl2⟩, hP.na, hP.sb, Nat.le_trans hP.bw a2.size, hP.m1, hP.m2, hP.m3, Nat.le_trans hP.mw a2.size⟩, a2⟩

/-- A block more lies in the node's row. -/
theorem addedB {base M0 S : Nat} {W W' w5 : World} {s : Sp} {N L : RS} {ps : List NR} {gb : Nat} {gl : Option Nat} (h : Pre base M0 S W s N L ps gb gl) {i : Nat} {xp : ByteArray} {xd : Bool} {xq : Int} {xl : List Blk} {xw : Int} {r : RS} (hX : ps[i]? = some (⟨xp, xd, xq, xl, xw⟩, r)) (hne : r.blk ≠ some gb) (hl : xl.length = r.n) (hb : Below W.heap.size W W') {a5 : Option Addr} {c5 : Nat} {g5 : Option Nat} {b : Blk}
    (hC : Cel (fun k => base ≤ k) w5 3 (.slice a5 (r.n + 1) c5) (r.n + 1) (rowC blkC (xl ++ [b])) g5) (hS : Stay (fun k => r.blk = some k) W' w5) (hg : ∀ k, g5 = some k → r.blk = some k ∨ W'.heap.size ≤ k) :
    (w5.cell? ⟨gb, i * 5 + 3, none⟩ = some (.slice r.a r.n r.c) ∧ w5.frozen? ⟨gb, i * 5 + 3, none⟩ = false) ∧ Own base (w5.setCell ⟨gb, i * 5 + 3, none⟩ (.slice a5 (r.n + 1) c5)) ⟨s.tx, s.nb, s.ng, s.now, s.ns.set i ⟨xp, xd, xq, xl ++ [b], xw⟩, s.ls⟩ N L (ps.set i (⟨xp, xd, xq, xl ++ [b], xw⟩, ⟨a5, r.n + 1, c5⟩)) (some gb) gl ∧ SpC (w5.setCell ⟨gb, i * 5 + 3, none⟩ (.slice a5 (r.n + 1) c5)) S ⟨s.tx, s.nb, s.ng, s.now, s.ns.set i ⟨xp, xd, xq, xl ++ [b], xw⟩, s.ls⟩ N L ∧ Stay (fun k => r.blk = some k ∨ k = gb) W (w5.setCell ⟨gb, i * 5 + 3, none⟩ (.slice a5 (r.n + 1) c5)) ∧ (∀ k, (⟨a5, r.n + 1, c5⟩ : RS).blk = some k → r.blk = some k ∨ W.heap.size ≤ k) := by
  have hP := h.below hb
  obtain ⟨hi, hx⟩ := List.getElem?_eq_some_iff.1 hX
  have hf := hP.free' hX
  have hlt := hP.lt
  have hbs : W'.heap.size ≤ w5.heap.size := hS.size
  have hws := hb.size
  have hkeep : w5.heap[gb]? = W'.heap[gb]? := hS.block gb hlt.1 hne
  have ha := (hP.lies hf.2.2.2.1).at' hX
  have hc3 : w5.cell? ⟨gb, i * 5 + 3, none⟩ = some (.slice r.a r.n r.c) := (World.cell?_of_block (a := ⟨gb, i * 5 + 3, none⟩) hkeep).trans ha.c3
  have hf3 : w5.frozen? ⟨gb, i * 5 + 3, none⟩ = false := (World.frozen?_of_block (a := ⟨gb, i * 5 + 3, none⟩) hkeep).trans (hf.2.2.2.2 3 (by omega))
  obtain ⟨q, ha5, hg5⟩ := hC.at2 (by omega)
  have hblk : (⟨a5, r.n + 1, c5⟩ : RS).blk = some q := by unfold RS.blk; rw [if_neg (by show ¬ r.n + 1 = 0; omega)]; show a5.map _ = _; rw [ha5]; rfl
  have hq := hg q hg5
  have hqg : q ≠ gb := fun e => by
    rcases hq with e2 | e2
    · exact hne (by rw [e2, e])
    · omega
  have hS2 : Stay (fun k => k = gb) w5 (w5.setCell ⟨gb, i * 5 + 3, none⟩ (.slice a5 (r.n + 1) c5)) := Stay.setCell _ _ _ rfl
  have hF5 : Free base w5 (⟨xp, xd, xq, xl ++ [b], xw⟩, ⟨a5, r.n + 1, c5⟩) := free_of_cel hC (by rw [List.length_append, hl]; rfl) rfl hf.1.ok.small
  have hF6 : Free base (w5.setCell ⟨gb, i * 5 + 3, none⟩ (.slice a5 (r.n + 1) c5)) (⟨xp, xd, xq, xl ++ [b], xw⟩, ⟨a5, r.n + 1, c5⟩) := Stay.free hF5 hS2 (fun k hk e => by
    have hk' : (⟨a5, r.n + 1, c5⟩ : RS).blk = some k := hk
    rw [hblk] at hk'
    exact hqg ((Option.some.inj hk').trans e))
  have hST : Stay (fun k => r.blk = some k ∨ k = gb) W' (w5.setCell ⟨gb, i * 5 + 3, none⟩ (.slice a5 (r.n + 1) c5)) := (hS.mono (fun k hk => .inl hk)).then_same (hS2.mono (fun k hk => .inr hk))
  have hCN : Cel (fun k => base ≤ k) w5 5 (.slice N.a N.n N.c) N.n (rowC ndC ps) (some gb) := hP.own.lot.cel.stay hS.size (fun k hk => by cases hk; exact hkeep) (fun _ e => e)
  have hC6 := Cel.setF hCN hP.own.lot.len hi 3 (by omega) (.slice a5 (r.n + 1) c5) (⟨xp, xd, xq, xl ++ [b], xw⟩, ⟨a5, r.n + 1, c5⟩) (fun j => by
    rw [hx]
    match j with
    | 0 => rfl
    | 1 => rfl
    | 2 => rfl
    | 3 => rfl
    | 4 => rfl
    | j + 5 => rfl)
  have hO := hP.own.upd hi (⟨xp, xd, xq, xl ++ [b], xw⟩, ⟨a5, r.n + 1, c5⟩) hC6 hF6 hST (fun k _ e => by rw [hx]; exact e.symm) (fun k hk => by
    rw [hx]
    have hk' : (⟨a5, r.n + 1, c5⟩ : RS).blk = some k := hk
    rw [hblk] at hk'
    cases hk'
    exact hq)
  refine ⟨⟨hc3, hf3⟩, hO, (hP.c.keep hST (fun e => ?_)).ns _ _, (Stay.of_below hb).then_same hST, fun k hk => ?_⟩
  · have hsb := hP.sb
    rcases e with e | e
    · have := hf.1.blk_ge S e; omega
    · omega
  · rw [hblk] at hk
    cases hk
    rcases hq with e | e
    · exact .inl e
    · exact .inr (by omega)

end Go.Proofs.YtigomhilcnnjdaaGreat.Spa

/- The contract of space.change, by the kind of its edit. -/
namespace Go.Proofs.YtigomhilcnnjdaaGreat.Spa
open Go.RowKit Go.Proofs.YtigomhilcnnjdaaGreat
open Go.Proofs.YtigomhilcnnjdaaGreat.Lea (LS Ls findX putL renX LL LO LsR lsC wideL)
open Go.Proofs.YtigomhilcnnjdaaGreat.Edi (Ed Nm EdAt edV)

theorem done_up {base M0 S : Nat} {w W w1 : World} {s t : Sp} {N L : RS} {ps : List NR} {gb : Nat} {gl : Option Nat} (h : Pre base M0 S w s N L ps gb gl) {b : Blk} {x : Nd} {r : Ending} (hA : AnC W (w.heap.size + 1) 0 zeroB noS zeroX 0) (hsz : w.heap.size + 2 ≤ W.heap.size) (hb : Below w.heap.size w W) (hD : DoneR S base M0 t b x W r w1) :
    ∃ sx, r = .returned (anV 0 b noS (x, sx) 0) ∧ AnC w1 (w.heap.size + 1) 0 zeroB noS zeroX 0 ∧ AnC (put11 w1 (w.heap.size + 1) 0 b noS (x, sx) 0) (w.heap.size + 1) 0 b noS (x, sx) 0 ∧ DoneR S base M0 t b x w (.returned (anV 0 b noS (x, sx) 0)) (put11 w1 (w.heap.size + 1) 0 b noS (x, sx) 0) := by
  obtain ⟨⟨N', L', ps', g', gl', M, sx, hr, hC, hO, hF, hM, ⟨n1, n2, n3⟩, n4⟩, hst⟩ := hD
  have hmw := h.mw
  have hlt := h.lt
  have hA1 := hA.keep hst (fun e => by
    rcases e with e | e
    · omega
    · omega)
  have hf : ∀ k, k < M0 ∨ W.heap.size ≤ k → k ≠ w.heap.size + 1 ∧ (k < M0 ∨ w.heap.size ≤ k) := fun k hk => by omega
  obtain ⟨k1, k2⟩ := DoneR.mk2 (b := b) (x := x) (sx := sx) hA1 hC hO hF hM ((Stay.of_below hb).then_same hst) (by omega) h.bw hlt.2.2.1 (fun k hk => hf k (n1 k hk)) (fun k hk => hf k (n2 k hk)) (fun z hz k hk => hf k (n3 z hz k hk)) (fun k hk => by have := n4 k hk; omega)
  exact ⟨sx, hr, hA1, k1, k2⟩

theorem unit_up {base M0 S : Nat} {w W w1 : World} {s t : Sp} {N L : RS} {ps : List NR} {gb : Nat} {gl : Option Nat} (h : Pre base M0 S w s N L ps gb gl) {r : Ending} (hA : AnC W (w.heap.size + 1) 0 zeroB noS zeroX 0) (hsz : w.heap.size + 2 ≤ W.heap.size) (hb : Below w.heap.size w W) (hD : UnitR S base M0 t W r w1) :
    r = .returned (.tuple #[]) ∧ AnC w1 (w.heap.size + 1) 0 zeroB noS zeroX 0 ∧ AnC (put11 w1 (w.heap.size + 1) 0 zeroB noS (zeroN, noS) 0) (w.heap.size + 1) 0 zeroB noS (zeroN, noS) 0 ∧ DoneR S base M0 t zeroB zeroN w (.returned (anV 0 zeroB noS (zeroN, noS) 0)) (put11 w1 (w.heap.size + 1) 0 zeroB noS (zeroN, noS) 0) := by
  obtain ⟨⟨N', L', ps', g', gl', hr, hC, hO, n1, n2, n3⟩, hst⟩ := hD
  have hmw := h.mw
  have hlt := h.lt
  have hbw := h.bw
  have hss := hst.size
  have hA1 := hA.keep hst (fun e => by
    rcases e with e | e
    · omega
    · omega)
  have hf : ∀ k, k < M0 ∨ W.heap.size ≤ k → k ≠ w.heap.size + 1 ∧ (k < M0 ∨ w.heap.size ≤ k) := fun k hk => by omega
  obtain ⟨k1, k2⟩ := DoneR.mk2 (b := zeroB) (x := zeroN) (sx := noS) hA1 hC hO (free_no _ w1 zeroN rfl (Nat.zero_le _)) (by omega) ((Stay.of_below hb).then_same hst) (by omega) h.bw hlt.2.2.1 (fun k hk => hf k (n1 k hk)) (fun k hk => hf k (n2 k hk)) (fun z hz k hk => hf k (n3 z hz k hk)) (fun k hk => by unfold noS RS.blk at hk; simp at hk)
  exact ⟨hr, hA1, k1, k2⟩

end Go.Proofs.YtigomhilcnnjdaaGreat.Spa

/- The contract of space.change at MkDir and Delete. -/
namespace Go.Proofs.YtigomhilcnnjdaaGreat.Spa
open Go.RowKit Go.Proofs.YtigomhilcnnjdaaGreat
open Go.Proofs.YtigomhilcnnjdaaGreat.Lea (LS Ls findX putL renX LL LO LsR lsC wideL)
open Go.Proofs.YtigomhilcnnjdaaGreat.Edi (Ed Nm EdAt edV)

theorem AddR.unit {base M0 S : Nat} {W w1 : World} {s t : Sp} {N L : RS} {ps : List NR} {gb : Nat} {gl : Option Nat} (h : Pre base M0 S W s N L ps gb gl) {r : Ending} (hA : AddR S base t L gl W r w1) : UnitR S base M0 t W r w1 := by
  obtain ⟨⟨N', ps', g', hr, hC, hO, h1, h2⟩, hst⟩ := hA
  exact ⟨⟨N', L, ps', g', gl, hr, hC, hO, fun k hk => .inr (h1 k hk), fun k hk => .inl (h.m2 k hk), fun x hx k hk => .inr (h2 x hx k hk)⟩, hst.mono (fun k hk => .inl hk)⟩
theorem unit_ns {base M0 S : Nat} {W w1 : World} {s : Sp} {N L : RS} {ps : List NR} {gb : Nat} {gl : Option Nat} (h : Pre base M0 S W s N L ps gb gl) {W1 : Nat} (hW : W.heap.size ≤ W1) (hb : Below W.heap.size W w1) {N' : RS} {ns : NS} (hX : LX W1 w1 N'.a N'.n N'.c ns) :
    UnitR S base M0 ⟨s.tx, s.nb, s.ng, s.now, ns, s.ls⟩ W (.returned (.tuple #[])) (w1.setCell ⟨S, 4, none⟩ (.slice N'.a N'.n N'.c)) := by
  obtain ⟨ps', g', r1, r2, r3, r4, r5⟩ := h.newNs (N' := N') hW hb hX
  exact ⟨⟨N', L, ps', g', gl, rfl, r1, r2.up (by rw [setC_size]; exact Nat.le_refl _), fun k hk => .inr (r4 k hk), fun k hk => .inl (h.m2 k hk), fun x hx k hk => .inr (r5 x hx k hk)⟩, r3.mono (fun k hk => .inl hk)⟩

end Go.Proofs.YtigomhilcnnjdaaGreat.Spa

/- The contract of space.change: an edit is made, or refused. -/
namespace Go.Proofs.YtigomhilcnnjdaaGreat.Spa
open Go.RowKit Go.Proofs.YtigomhilcnnjdaaGreat
open Go.Proofs.YtigomhilcnnjdaaGreat.Lea (LS Ls findX putL renX LL LO LsR lsC wideL)
open Go.Proofs.YtigomhilcnnjdaaGreat.Edi (Ed Nm EdAt edV)

/-- The space behind an edit, ahead of the count. -/
def doT (s : Sp) (e : Ed) : Sp := ⟨s.tx, (doS s e).nb, (doS s e).ng, (doS s e).now, (doS s e).ns, (doS s e).ls⟩
theorem new1 {e : Ed} (hk : e.k = 1) : newN e = ⟨e.p, true, -1, [], -1⟩ := by unfold newN; rw [if_neg (by omega), decide_eq_true hk]
theorem num9 {e : Ed} (he : Edi.Rt e) (hk : e.k = 9) : 0 ≤ e.n := by
  have := (Edi.inB_iff.1 he.num).1
  rw [hk] at this
  simpa [Edi.loN] using this
theorem Pre.pos {base M0 S : Nat} {w : World} {s : Sp} {N L : RS} {ps : List NR} {gb : Nat} {gl : Option Nat} (h : Pre base M0 S w s N L ps gb gl) (hR : RtS s) : 0 < ps.length := by
  have h1 := congrArg List.length h.own.map
  rw [List.length_map] at h1
  rw [h1]
  exact hR.tree.pos
theorem small_p {e : Ed} (he : Edi.Rt e) : e.p.size ≤ maxLen := Nat.le_trans he.path (by decide)
theorem small_t {e : Ed} (he : Edi.Rt e) : e.t.size ≤ maxLen := Nat.le_trans (Nat.le_trans he.to (Edi.toM_le _)) (by decide)
theorem eight {s : Sp} {e : Ed} (hR : RtS s) {i : Nat} {x : Nd} (hw : Wr s e i x) : x.bs.length ≤ 8 := (file_of (hR.tree.fit x hw.is.mem) hw.dir).2.2.2.2.1

/-! ### what comes of each kind -/
theorem doT_made {s : Sp} {e : Ed} (k : e.k = 1) : doT s e = ⟨s.tx, s.nb, s.ng, s.now, sortN (s.ns ++ [newN e]), s.ls⟩ ∧ blkOf s e = zeroB ∧ ndOf s e = zeroN := by
  refine ⟨?_, ?_, ?_⟩
  · unfold doT doS lsOf nowOf nsOf
    simp only [k]
    simp
  · unfold blkOf; simp [k]
  · unfold ndOf; simp [k]
theorem doT_create {s : Sp} {e : Ed} (k : e.k = 2) : doT s e = ⟨s.tx, s.nb, s.ng, s.now, sortN (s.ns ++ [newN e]), (renX s.ls e.c s.now).1⟩ ∧ blkOf s e = zeroB ∧ ndOf s e = newN e := by
  refine ⟨?_, ?_, ?_⟩
  · unfold doT doS lsOf nowOf nsOf
    simp only [k]
    simp
  · unfold blkOf; simp [k]
  · unfold ndOf; simp [k]
theorem doT_rem {s : Sp} {e : Ed} (k : e.k = 3) : doT s e = ⟨s.tx, s.nb, s.ng, s.now, leftL s.ns e.p, s.ls⟩ ∧ blkOf s e = zeroB ∧ ndOf s e = zeroN := by
  refine ⟨?_, ?_, ?_⟩
  · unfold doT doS lsOf nowOf nsOf
    simp only [k]
    simp
  · unfold blkOf; simp [k]
  · unfold ndOf; simp [k]
theorem doT_ren {s : Sp} {e : Ed} (k : e.k = 4) : doT s e = ⟨s.tx, s.nb, s.ng, s.now, movL s.ns e.p e.t, s.ls⟩ ∧ blkOf s e = zeroB ∧ ndOf s e = zeroN := by
  refine ⟨?_, ?_, ?_⟩
  · unfold doT doS lsOf nowOf nsOf
    simp only [k]
    simp
  · unfold blkOf; simp [k]
  · unfold ndOf; simp [k]
theorem doT_addb {s : Sp} {e : Ed} (k : e.k = 5) {i : Nat} {x : Nd} (hi : Is s.ns e.p i x) : doT s e = ⟨s.tx, s.nb + 1, s.ng + 1, s.now, s.ns.set i (withBs x (setLens x.bs e.ls ++ [⟨s.nb, s.ng, 0⟩])), s.ls⟩ ∧ blkOf s e = ⟨s.nb, s.ng, 0⟩ ∧ ndOf s e = withBs x (setLens x.bs e.ls ++ [⟨s.nb, s.ng, 0⟩]) := by
  refine ⟨?_, ?_, ?_⟩
  · unfold doT doS lsOf nowOf nsOf
    rw [hi.upd]
    unfold onN
    simp only [k]
    simp
  · unfold blkOf; simp [k]
  · unfold ndOf onN; rw [hi.nodeOr]; simp [k]
theorem doT_comp {s : Sp} {e : Ed} (k : e.k = 6) {i : Nat} {x : Nd} (hi : Is s.ns e.p i x) : doT s e = ⟨s.tx, s.nb, s.ng, s.now, s.ns.set i (withWr (withBs x (setLens x.bs e.ls)) (-1)), s.ls⟩ ∧ blkOf s e = zeroB ∧ ndOf s e = withWr (withBs x (setLens x.bs e.ls)) (-1) := by
  refine ⟨?_, ?_, ?_⟩
  · unfold doT doS lsOf nowOf nsOf
    rw [hi.upd]
    unfold onN
    simp only [k]
    simp
  · unfold blkOf; simp [k]
  · unfold ndOf onN; rw [hi.nodeOr]; simp [k]
theorem doT_setq {s : Sp} {e : Ed} (k : e.k = 7) {i : Nat} {x : Nd} (hi : Is s.ns e.p i x) : doT s e = ⟨s.tx, s.nb, s.ng, s.now, s.ns.set i (withQu x e.n), s.ls⟩ ∧ blkOf s e = zeroB ∧ ndOf s e = zeroN := by
  refine ⟨?_, ?_, ?_⟩
  · unfold doT doS lsOf nowOf nsOf
    rw [hi.upd]
    unfold onN
    simp only [k]
    simp
  · unfold blkOf; simp [k]
  · unfold ndOf; simp [k]
theorem doT_rnw {s : Sp} {e : Ed} (k : e.k = 8) : doT s e = ⟨s.tx, s.nb, s.ng, e.n, s.ns, (renX s.ls e.c e.n).1⟩ ∧ blkOf s e = zeroB ∧ ndOf s e = zeroN := by
  have hu : updN s.ns e.p (onN s e) = s.ns := updN_self _ _ _ (fun x _ => by unfold onN; simp [k])
  refine ⟨?_, ?_, ?_⟩
  · unfold doT doS lsOf nowOf nsOf
    rw [hu]
    simp only [k]
    simp
  · unfold blkOf; simp [k]
  · unfold ndOf; simp [k]
theorem doT_bump {s : Sp} {e : Ed} (k : e.k = 9) {i : Nat} {x : Nd} (hi : Is s.ns e.p i x) (hl : e.n.toNat < x.bs.length) : doT s e = ⟨s.tx, s.nb, s.ng + 1, s.now, s.ns.set i (withBs x (setGen x.bs e.n.toNat s.ng)), s.ls⟩ ∧ blkOf s e = ⟨x.bs[e.n.toNat].id, s.ng, x.bs[e.n.toNat].len⟩ ∧ ndOf s e = withBs x (setGen x.bs e.n.toNat s.ng) := by
  refine ⟨?_, ?_, ?_⟩
  · unfold doT doS lsOf nowOf nsOf
    rw [hi.upd]
    unfold onN
    simp only [k]
    simp
  · unfold blkOf
    rw [hi.nodeOr, if_neg (by omega), if_pos k, setGen_set _ _ _ hl, List.getD_eq_getElem?_getD, List.getElem?_set_self hl]
    rfl
  · unfold ndOf onN; rw [hi.nodeOr]; simp [k]
theorem doT_reop {s : Sp} {e : Ed} (k : e.k = 10) {i : Nat} {x : Nd} (hi : Is s.ns e.p i x) : doT s e = ⟨s.tx, s.nb, s.ng, s.now, s.ns.set i (withWr x e.c), (renX s.ls e.c s.now).1⟩ ∧ blkOf s e = zeroB ∧ ndOf s e = withWr x e.c := by
  refine ⟨?_, ?_, ?_⟩
  · unfold doT doS lsOf nowOf nsOf
    rw [hi.upd]
    unfold onN
    simp only [k]
    simp
  · unfold blkOf; simp [k]
  · unfold ndOf onN; rw [hi.nodeOr]; simp [k]

end Go.Proofs.YtigomhilcnnjdaaGreat.Spa

/- The contracts of Apply's deferred closure. -/
namespace Go.Proofs.YtigomhilcnnjdaaGreat.Spa
open Go.RowKit Go.Proofs.YtigomhilcnnjdaaGreat
open Go.Proofs.YtigomhilcnnjdaaGreat.Lea (LS Ls findX putL renX LL LO LsR lsC wideL)
open Go.Proofs.YtigomhilcnnjdaaGreat.Edi (Ed Nm EdAt edV)

end Go.Proofs.YtigomhilcnnjdaaGreat.Spa

/- The contract of space.Apply: an edit that is refused. -/
namespace Go.Proofs.YtigomhilcnnjdaaGreat.Spa
open Go.RowKit Go.Proofs.YtigomhilcnnjdaaGreat
open Go.Proofs.YtigomhilcnnjdaaGreat.Lea (LS Ls findX putL renX LL LO LsR lsC wideL)
open Go.Proofs.YtigomhilcnnjdaaGreat.Edi (Ed Nm EdAt edV)

theorem four_boxes {w w1 : World} {cs ds fs gs : Array Value} {t1 t2 t3 t4 : TypeId} (hb : Below ((((w.alloc (.cells cs t1)).alloc (.cells ds t2)).alloc (.cells fs t3)).alloc (.cells gs t4)).heap.size ((((w.alloc (.cells cs t1)).alloc (.cells ds t2)).alloc (.cells fs t3)).alloc (.cells gs t4)) w1) :
    (∀ j v, cs[j]? = some v → w1.cell? ⟨w.heap.size, j, none⟩ = some v) ∧ (∀ j v, ds[j]? = some v → w1.cell? ⟨w.heap.size + 1, j, none⟩ = some v) ∧ (∀ j v, fs[j]? = some v → w1.cell? ⟨w.heap.size + 1 + 1, j, none⟩ = some v) ∧ (∀ j, w1.frozen? ⟨w.heap.size + 1 + 1, j, none⟩ = false) ∧ (∀ j v, gs[j]? = some v → w1.cell? ⟨w.heap.size + 1 + 1 + 1, j, none⟩ = some v) ∧ (∀ j, w1.frozen? ⟨w.heap.size + 1 + 1 + 1, j, none⟩ = false) ∧ Below w.heap.size w w1 ∧ w.heap.size + 4 ≤ w1.heap.size := by
  have hz : ((w.alloc (.cells cs t1)).alloc (.cells ds t2)).heap.size = w.heap.size + 1 + 1 := by simp
  obtain ⟨q1, q2, q3, q4, q5, q6⟩ := two_boxes hb
  obtain ⟨r1, r2, r3, r4, r5, r6⟩ := two_boxes q5
  rw [hz] at q1 q2 q3 q4 q6
  exact ⟨r1, r3, q1, q2, q3, q4, r5, by omega⟩

end Go.Proofs.YtigomhilcnnjdaaGreat.Spa

/- The contract of space.Apply: an edit that is refused, further. -/
namespace Go.Proofs.YtigomhilcnnjdaaGreat.Spa
open Go.RowKit Go.Proofs.YtigomhilcnnjdaaGreat
open Go.Proofs.YtigomhilcnnjdaaGreat.Lea (LS Ls findX putL renX LL LO LsR lsC wideL)
open Go.Proofs.YtigomhilcnnjdaaGreat.Edi (Ed Nm EdAt edV)

theorem bs_few {x : Nd} (h : fitsB x = true) : x.bs.length ≤ 8 := by
  cases hd : x.dir with
  | false => exact (file_of h hd).2.2.2.2.1
  | true => rw [(dir_of h hd).2.1]; exact Nat.zero_le _
theorem nm_lt {w : World} {a : Option Addr} {m : Nat} {zs : List Int} (h : Nm w a m zs) (ad : Addr) (ha : a = some ad) (hp : 0 < m) : ad.block < w.heap.size := by
  obtain ⟨b, off, h1, h2⟩ := h.at hp
  rw [ha] at h1
  cases h1
  exact World.block_lt_of_cell? _ _ (h2 0 (by rw [h.len]; exact hp))
theorem put6_below {w w3 : World} {s0 : Sp} {N0 L0 : RS} (hb : Below w.heap.size w w3) (hS : SpC w3 (w.heap.size + 1 + 1) s0 N0 L0) (s : Sp) (N L : RS) : Below w.heap.size w (put6 w3 (w.heap.size + 1 + 1) s N L) :=
  ((Stay.of_below (O := fun k => w.heap.size ≤ k) hb).then_same ((put6_at hS s N L).2.mono (fun k hk => by omega))).below (Nat.le_refl _) (fun k hk => hk)
/-- The space's copy, laid down, is one that an edit may be made in. -/
theorem pre_copied {w w2 w3 : World} {s s0 : Sp} {N0 L0 N L : RS} {ps : List NR} {g gl : Option Nat} (hR : RtS s) (hS : SpC w3 (w.heap.size + 1 + 1) s0 N0 L0) (h4 : w.heap.size + 4 ≤ w2.heap.size) (h23 : w2.heap.size ≤ w3.heap.size) (hO : Own w2.heap.size w3 s N L ps g gl) :
    ∃ gb, Pre w2.heap.size (put6 w3 (w.heap.size + 1 + 1) s N L).heap.size (w.heap.size + 1 + 1) (put6 w3 (w.heap.size + 1 + 1) s N L) s N L ps gb gl := by
  obtain ⟨p1, p2⟩ := put6_at hS s N L
  have h1 := congrArg List.length hO.map
  rw [List.length_map] at h1
  have hpos := hR.tree.pos
  have hlen := hO.lot.len
  obtain ⟨gb, ha, rfl⟩ := hO.lot.cel.at2 (by omega)
  have hO2 := hO.out p2 (fun k hk => by omega)
  exact ⟨gb, preOf p1 hO2 ha (by omega) (Nat.le_trans h23 p2.size)⟩

end Go.Proofs.YtigomhilcnnjdaaGreat.Spa

/- The contract of space.Apply: an edit that is made. -/
namespace Go.Proofs.YtigomhilcnnjdaaGreat.Spa
open Go.RowKit Go.Proofs.YtigomhilcnnjdaaGreat
open Go.Proofs.YtigomhilcnnjdaaGreat.Lea (LS Ls findX putL renX LL LO LsR lsC wideL)
open Go.Proofs.YtigomhilcnnjdaaGreat.Edi (Ed Nm EdAt edV)

/-- An edit is applied: the new space and the answer lie in new memory. -/
structure AppliedR (B : Nat) (t : Sp) (b : Blk) (x : Nd) (r : Ending) (w' : World) : Prop where
  ex : ∃ N L ps g gl base M sx, r = .returned (.tuple #[spV t N L, anV 0 b noS (x, sx) 0]) ∧ OwnM base M w' t N L ps g gl ∧ Free M w' (x, sx) ∧ B ≤ base ∧ base ≤ M
theorem rm_put6 {w3 : World} {R : Nat} {s0 : Sp} {N0 L0 : RS} (hS : SpC w3 R s0 N0 L0) (s : Sp) (N L : RS) {r : RS} (h : Rm w3 r) (hne : r.blk ≠ some R) : Rm (put6 w3 R s N L) r :=
  h.keep fun k hk => (put6_at hS s N L).2.block k (h.lt k hk) (fun e => hne (by rw [hk, e]))

end Go.Proofs.YtigomhilcnnjdaaGreat.Spa

/- The contract of space.Apply, whatever becomes of the edit. -/
namespace Go.Proofs.YtigomhilcnnjdaaGreat.Spa
open Go.RowKit Go.Proofs.YtigomhilcnnjdaaGreat
open Go.Proofs.YtigomhilcnnjdaaGreat.Lea (LS Ls findX putL renX LL LO LsR lsC wideL)
open Go.Proofs.YtigomhilcnnjdaaGreat.Edi (Ed Nm EdAt edV)

theorem OwnM.spIn {base M : Nat} {w : World} {s : Sp} {N L : RS} {ps : List NR} {g gl : Option Nat} (h : OwnM base M w s N L ps g gl) : SpIn w s N L := by
  obtain ⟨b, hb⟩ := h.lot.nds
  refine ⟨⟨b, 0, ps, h.map, ?_, hb⟩, h.lo.ll, fun hn => ?_⟩
  · rw [← h.map, List.length_map]; exact h.lot.len
  · have hc := h.lot.cel
    cases hc with
    | nil e _ _ => injection e
    | row k cap e _ _ _ _ _ _ _ => injection e with e1 _ _; rw [hn] at e1; cases e1
theorem OwnM.zero (B M : Nat) (w : World) : OwnM B M w zeroS noS noS [] none none :=
  ⟨⟨.nil rfl rfl rfl, rfl, fun x hx => (by cases hx), fun x hx => (by cases hx)⟩, rfl, Lea.LO.none _ _, fun k hk => (by cases hk), fun x hx => (by cases hx), fun k hk => (by cases hk), fun k hk => (by cases hk), fun x hx => (by cases hx)⟩

def appB (s : Sp) (e : Ed) (E : Int) : Blk := if E = 0 then blkOf s e else zeroB
def appN (s : Sp) (e : Ed) (E : Int) : Nd := if E = 0 then ndOf s e else zeroN
/-- What Apply tells: a space in new memory, and an answer in new memory. -/
structure AppR (B : Nat) (s : Sp) (e : Ed) (E : Int) (r : Ending) (w' : World) : Prop where
  ex : ∃ N L ps g gl base M sx, r = .returned (.tuple #[spV (appS s e E) N L, anV E (appB s e E) noS (appN s e E, sx) 0]) ∧ OwnM base M w' (appS s e E) N L ps g gl ∧ Free M w' (appN s e E, sx) ∧ B ≤ base ∧ base ≤ M
theorem appR_no {B : Nat} {s : Sp} {e : Ed} {E : Int} {r : Ending} {w' : World} (h0 : E ≠ 0) (hr : r = .returned (.tuple #[spV zeroS noS noS, anV E zeroB noS zeroX 0])) : AppR B s e E r w' := by
  have e1 : appS s e E = zeroS := if_neg h0
  have e2 : appB s e E = zeroB := if_neg h0
  have e3 : appN s e E = zeroN := if_neg h0
  refine ⟨noS, noS, [], none, none, B, B, noS, ?_, ?_, ?_, Nat.le_refl _, Nat.le_refl _⟩
  · rw [e1, e2, e3]; exact hr
  · rw [e1]; exact OwnM.zero _ _ _
  · rw [e3]; exact free_no _ _ zeroN rfl (by decide)

end Go.Proofs.YtigomhilcnnjdaaGreat.Spa

/- The contract of tabulariumref11.Right. -/
namespace Go.Proofs.YtigomhilcnnjdaaGreat.Spa
open Go.RowKit Go.Proofs.YtigomhilcnnjdaaGreat
open Go.Proofs.YtigomhilcnnjdaaGreat.Lea (LS Ls LL untilX)

def idB (bs : List Blk) : List Int := bs.map (·.id)
structure SoFar (s : Sp) (sl : List Blk) : Prop where
  pw : sl.Pairwise (fun a b => a.id ≠ b.id)
  lo : ∀ b ∈ sl, b.id < s.nb ∧ b.gen < s.ng
theorem stay_cellR {O : Nat → Prop} {w w' : World} (h : Stay O w w') {a : Addr} {v : Value} (hc : w.cell? a = some v) (hO : ¬ O a.block) : w'.cell? a = some v :=
  (World.cell?_of_block (a := a) (h.block a.block (World.block_lt_of_cell? _ _ hc) hO)).trans hc
theorem SoFar.next {s : Sp} {sl : List Blk} (h : SoFar s sl) {b : Blk} (hid : ∀ x ∈ sl, x.id ≠ b.id) (h1 : b.id < s.nb) (h2 : b.gen < s.ng) : SoFar s (sl ++ [b]) :=
  ⟨List.pairwise_append.2 ⟨h.pw, List.pairwise_singleton _ _, fun x hx y hy => by rw [List.mem_singleton.1 hy]; exact hid x hx⟩, fun x hx => (List.mem_append.1 hx).elim (h.lo x) (fun e => by rw [List.mem_singleton.1 e]; exact ⟨h1, h2⟩)⟩
theorem SoFar.of {s : Sp} {sl : List Blk} (h : BksOk s) (hp : sl <+: blksL s.ns) : SoFar s sl := by
  obtain ⟨r, hr⟩ := hp
  refine ⟨?_, fun b hb => h.2 b (by rw [← hr]; exact List.mem_append_left _ hb)⟩
  have := h.1
  rw [← hr] at this
  exact (List.pairwise_append.1 this).1
theorem blks_next {ns : NS} {i : Nat} (hi : i < ns.length) : blksL (ns.take (i + 1)) = blksL (ns.take i) ++ ns[i].bs := by
  unfold blksL
  rw [List.take_succ_eq_append_getElem hi, List.flatMap_append]
  simp only [List.flatMap_cons, List.flatMap_nil, List.append_nil]
theorem blks_pre {ns : NS} {i : Nat} (hi : i < ns.length) (k : Nat) : (blksL (ns.take i) ++ ns[i].bs.take k) <+: blksL ns := by
  refine ⟨ns[i].bs.drop k ++ blksL (ns.drop (i + 1)), ?_⟩
  have h1 : blksL ns = blksL (ns.take (i + 1)) ++ blksL (ns.drop (i + 1)) := by
    unfold blksL
    rw [← List.flatMap_append, List.take_append_drop]
  rw [h1, blks_next hi, List.append_assoc, List.append_assoc, ← List.append_assoc (ns[i].bs.take k), List.take_append_drop]

set_option maxRecDepth 100000 in
set_option maxHeartbeats 8000000 in
theorem refRightS_val {s : Sp} {N L : RS} {w : World} (h : SpIn w s N L) (u : Bool) (hu : u = true ↔ RtS s) :
    Calls Tryz.prog 38 #[spV s N L] w fun e w' => e = .returned (.bool u) ∧ Below w.heap.size w w' := by
  obtain ⟨ti, hi1, hi2, hi3, hi4⟩ := Lea.intRow
  have HNLs : Hid (NL w N.a N.n s.ns) := h.nl
  have HLL : Hid (LL w L.a L.n L.c s.ls) := h.ll
  have HU : Hid (u = true ↔ RtS s) := hu
  obtain ⟨vt, hvt⟩ : ∃ v : Bool, v = true ↔ Right s.ns := by
    by_cases e : Right s.ns
    · exact ⟨true, fun _ => e, fun _ => rfl⟩
    · exact ⟨false, fun h => (by cases h), fun h => absurd h e⟩
  obtain ⟨vl, hvl⟩ : ∃ v : Bool, v = true ↔ Lea.Rt s.ls := by
    by_cases e : Lea.Rt s.ls
    · exact ⟨true, fun _ => e, fun _ => rfl⟩
    · exact ⟨false, fun h => (by cases h), fun h => absurd h e⟩
  have HVT : Hid (vt = true ↔ Right s.ns) := hvt
  have HVL : Hid (vl = true ↔ Lea.Rt s.ls) := hvl
  have CT : Hid (∀ W, Below w.heap.size w W → Calls Tryz.prog 60 #[.slice N.a N.n N.c] W fun e w' => e = .returned (.bool vt) ∧ Below W.heap.size W w') := fun W hb => refRight_val (HNLs.out.below hb) vt HVT.out
  have CL : Hid (∀ W, Below w.heap.size w W → Calls Tryz.prog 61 #[.slice L.a L.n L.c] W fun e w' => e = .returned (.bool vl) ∧ Below W.heap.size W w') := fun W hb => Lea.refRight_val (HLL.out.below hb) vl HVL.out
  have HNOT : Hid (¬ RtS s → u = false) := fun hn => by
    cases u with
    | false => rfl
    | true => exact absurd (HU.out.1 rfl) hn
  clear h hu hvt hvl
  obtain ⟨tx, nb, ng, now, ns, ls⟩ := s
  obtain ⟨na, nn, nc⟩ := N
  obtain ⟨la, ln, lc⟩ := L
  unfold spV
  simp only at HNLs HLL HVT HVL CT CL
  simp only
  have hst := run_store_str
  have hst2 : ∀ (w : World) (a : Addr) (x : Option Addr) (n c : Nat) (m : Mode), (store a (.slice x n c) m).run Tryz.prog w = stored Tryz.prog w a (.slice x n c) m := fun w a x n c m => run_store_any w a _ m rfl
  go_enter Tryz.func38, Tryz.ntmps38
  go_wp2_with fail
  refine (CT.out _ (bel_al _ _)).mono ?_
  rintro e w1 ⟨rfl, b1⟩
  have B1 : Hid (Below w.heap.size w w1) := bel_tr (bel_al _ _) b1
  have S1 : Hid (SpC w1 w.heap.size ⟨tx, nb, ng, now, ns, ls⟩ ⟨na, nn, nc⟩ ⟨la, ln, lc⟩) := (SpC.new w 26 ⟨tx, nb, ng, now, ns, ls⟩ ⟨na, nn, nc⟩ ⟨la, ln, lc⟩).below b1
  have y5 := S1.out.c5
  simp only at y5
  have hw1 : w.heap.size < w1.heap.size := by have := b1.size; simp at this; omega
  clear b1 CT
  go_wp2_with fail
  refine (CL.out _ B1.out).mono ?_
  rintro e w2 ⟨rfl, b2⟩
  have B2 : Hid (Below w.heap.size w w2) := bel_tr B1.out b2
  have S2 : Hid (SpC w2 w.heap.size ⟨tx, nb, ng, now, ns, ls⟩ ⟨na, nn, nc⟩ ⟨la, ln, lc⟩) := S1.out.below b2
  have hw2 : w.heap.size < w2.heap.size := by have := b2.size; omega
  clear b2 CL B1 S1 y5 hw1
  obtain ⟨x0, x1, x2, x3, x4, x5, _⟩ := S2.out
  simp only at x0 x1 x2 x3 x4 x5
  by_cases q0 : tx < 0
  · have t0 : decide (tx < 0) = true := decide_eq_true q0
    have hu0 : u = false := HNOT.out (fun h => by have := h.tx; simp only at this; omega)
    subst hu0
    go_wp2
    go_ret
    exact ⟨rfl, B2.out⟩
  · have t0 : decide (tx < 0) = false := decide_eq_false q0
    by_cases q1 : 300 < tx
    · have t1 : decide (300 < tx) = true := decide_eq_true q1
      have hu0 : u = false := HNOT.out (fun h => by have := h.tx; simp only at this; omega)
      subst hu0
      go_wp2
      go_ret
      exact ⟨rfl, B2.out⟩
    · have t1 : decide (300 < tx) = false := decide_eq_false q1
      by_cases q2 : nb < 1
      · have t2 : decide (nb < 1) = true := decide_eq_true q2
        have hu0 : u = false := HNOT.out (fun h => by have := h.nb; simp only at this; omega)
        subst hu0
        go_wp2
        go_ret
        exact ⟨rfl, B2.out⟩
      · have t2 : decide (nb < 1) = false := decide_eq_false q2
        by_cases q3 : 9007199254740991 < nb
        · have t3 : decide (9007199254740991 < nb) = true := decide_eq_true q3
          have hu0 : u = false := HNOT.out (fun h => by have := h.nb; simp only at this; omega)
          subst hu0
          go_wp2
          go_ret
          exact ⟨rfl, B2.out⟩
        · have t3 : decide (9007199254740991 < nb) = false := decide_eq_false q3
          by_cases q4 : ng < 1
          · have t4 : decide (ng < 1) = true := decide_eq_true q4
            have hu0 : u = false := HNOT.out (fun h => by have := h.ng; simp only at this; omega)
            subst hu0
            go_wp2
            go_ret
            exact ⟨rfl, B2.out⟩
          · have t4 : decide (ng < 1) = false := decide_eq_false q4
            by_cases q5 : 9007199254740991 < ng
            · have t5 : decide (9007199254740991 < ng) = true := decide_eq_true q5
              have hu0 : u = false := HNOT.out (fun h => by have := h.ng; simp only at this; omega)
              subst hu0
              go_wp2
              go_ret
              exact ⟨rfl, B2.out⟩
            · have t5 : decide (9007199254740991 < ng) = false := decide_eq_false q5
              by_cases q6 : now < 0
              · have t6 : decide (now < 0) = true := decide_eq_true q6
                have hu0 : u = false := HNOT.out (fun h => by have := h.now; simp only at this; omega)
                subst hu0
                go_wp2
                go_ret
                exact ⟨rfl, B2.out⟩
              · have t6 : decide (now < 0) = false := decide_eq_false q6
                by_cases q7 : 9007199254740981 < now
                · have t7 : decide (9007199254740981 < now) = true := decide_eq_true q7
                  have hu0 : u = false := HNOT.out (fun h => by have := h.now; simp only at this; omega)
                  subst hu0
                  go_wp2
                  go_ret
                  exact ⟨rfl, B2.out⟩
                · have t7 : decide (9007199254740981 < now) = false := decide_eq_false q7
                  cases vt with
                  | false =>
                    have hu0 : u = false := HNOT.out (fun h => by have := HVT.out.2 h.tree; cases this)
                    subst hu0
                    go_wp2
                    go_ret
                    exact ⟨rfl, B2.out⟩
                  | true =>
                    cases vl with
                    | false =>
                      have hu0 : u = false := HNOT.out (fun h => by have := HVL.out.2 h.ls; cases this)
                      subst hu0
                      go_wp2
                      go_ret
                      exact ⟨rfl, B2.out⟩
                    | true =>
                      have HRG : Hid (Right ns) := HVT.out.1 rfl
                      have HRL : Hid (Lea.Rt ls) := HVL.out.1 rfl
                      have HRNG : Hid ((0 ≤ tx ∧ tx ≤ 300) ∧ (1 ≤ nb ∧ nb ≤ 9007199254740991) ∧ (1 ≤ ng ∧ ng ≤ 9007199254740991) ∧ (0 ≤ now ∧ now ≤ 9007199254740981)) := ⟨by omega, by omega, by omega, by omega⟩
                      have CO : Hid (∀ W m, (overL ns).length = m → Below w.heap.size w W → Calls Tryz.prog 62 #[.slice na nn nc] W fun e w' => TextsR W.heap.size (overL ns) m e w' ∧ Below W.heap.size W w') := fun W m hm hb => refOver_val (HNLs.out.below hb) true HVT.out (overL ns) rfl m hm
                      clear HVT HVL
                      obtain ⟨om, hom⟩ : ∃ m, (overL ns).length = m := ⟨_, rfl⟩
                      have HOM : Hid ((overL ns).length = om) := hom
                      clear hom
                      go_wp2_with fail
                      refine (CO.out _ om HOM.out B2.out).mono ?_
                      rintro e w3 ⟨hTR, b3⟩
                      obtain ⟨oa, oc, og, rfl, _⟩ := hTR.ex
                      have B3 : Hid (Below w.heap.size w w3) := bel_tr B2.out b3
                      have S3 : Hid (SpC w3 w.heap.size ⟨tx, nb, ng, now, ns, ls⟩ ⟨na, nn, nc⟩ ⟨la, ln, lc⟩) := S2.out.below b3
                      have hw3 : w.heap.size < w3.heap.size := by have := b3.size; omega
                      clear b3 hTR CO B2 S2 x0 x1 x2 x3 x4 x5 hw2
                      by_cases hom0 : om = 0
                      · subst hom0
                        have HOV : Hid (overL ns = []) := List.length_eq_zero_iff.1 HOM.out
                        obtain ⟨nbk, noff, ps, hm, hl, hNd⟩ := HNLs.out.ex
                        have HND : Hid (Nds w na nbk noff ps) := hNd
                        have HM : Hid (ps.map (·.1) = ns) := hm
                        have HPL : Hid (ps.length = nn) := by rw [← hl, ← hm, List.length_map]; exact rfl
                        have HNN : Hid (ns.length = nn) := hl
                        have h60 : nn ≤ 60 := by rw [← hl]; exact HRG.out.few
                        clear hNd hm hl HOM HNLs
                        have x4 := S3.out.c4
                        simp only at x4
                        go_wp2
                        clear x4
                        go_loopg [5, 6] nn (fun g v5 v6 wi => ∃ (i : Nat) (fa : Option Addr) (m fc : Nat) (gg : Option Nat), i + g = nn ∧ v6 = .int .i64 i ∧ v5 = .slice fa m fc ∧ m ≤ 8 * i ∧ Lea.NO w3.heap.size wi fa m fc (idB (blksL (ns.take i))) gg ∧ SoFar ⟨tx, nb, ng, now, ns, ls⟩ (blksL (ns.take i)) ∧ (∀ x ∈ ns.take i, x.wr ≠ -1 → (untilX ls x.wr).2 = true) ∧ Below w3.heap.size w3 wi)
                        case atStart => exact ⟨0, none, 0, 0, none, by omega, rfl, rfl, by omega, Lea.NO.none _ _, ⟨List.Pairwise.nil, fun b hb => (by cases hb)⟩, fun x hx => (by cases hx), Below.refl _ _⟩
                        case round =>
                          obtain ⟨i, fa, m, fc, gg, hig, rfl, rfl, hm8, hNO, hSF, hLS, hb⟩ := hrel
                          have HNO : Hid (Lea.NO w3.heap.size wr fa m fc (idB (blksL (ns.take i))) gg) := hNO
                          have HSF : Hid (SoFar ⟨tx, nb, ng, now, ns, ls⟩ (blksL (ns.take i))) := hSF
                          have HLS : Hid (∀ x ∈ ns.take i, x.wr ≠ -1 → (untilX ls x.wr).2 = true) := hLS
                          have HB : Hid (Below w3.heap.size w3 wr) := hb
                          have hSr := S3.out.below hb
                          have x4 := hSr.c4
                          have x5 := hSr.c5
                          simp only at x4 x5
                          clear hNO hSF hLS
                          by_cases hlt : i < nn
                          · have hip : i < ps.length := by rw [HPL.out]; exact hlt
                            have hix : i < ns.length := by rw [HNN.out]; exact hlt
                            have exi : ns[i] = ps[i].1 := by
                              have h1 : ns[i]? = some ps[i].1 := by rw [← HM.out, List.getElem?_map, List.getElem?_eq_getElem hip]; rfl
                              rw [List.getElem?_eq_getElem hix] at h1
                              exact Option.some.inj h1
                            have hK3 := HND.out.below B3.out
                            have hK := hK3.below hb
                            obtain ⟨e0, e1, e2, e3, e4⟩ := hK.at hip
                            obtain rfl := hK.addr (by omega)
                            have HBK : Hid (Blks w3 ps[i].2 ps[i].1.bs) := (hK3.ok _ (List.getElem_mem hip)).bs
                            have HFI : Hid (fitsB ps[i].1 = true) := by rw [← exi]; exact HRG.out.fit _ (List.getElem_mem hix)
                            have HTK : Hid (ns.take (i + 1) = ns.take i ++ [ps[i].1]) := by rw [← exi]; exact List.take_succ_eq_append_getElem hix
                            have HBN : Hid (blksL (ns.take (i + 1)) = blksL (ns.take i) ++ ps[i].1.bs) := by rw [← exi]; exact blks_next hix
                            have HPRE : Hid (∀ k, (blksL (ns.take i) ++ ps[i].1.bs.take k) <+: blksL ns) := fun k => by rw [← exi]; exact blks_pre hix k
                            have HMEM : Hid (ps[i].1 ∈ ns) := by rw [← exi]; exact List.getElem_mem hix
                            clear hK hK3 exi
                            generalize ps[i] = xx at *
                            obtain ⟨⟨p, d, q, bs, wb⟩, ⟨sa, sn, sc⟩⟩ := xx
                            simp only at e0 e1 e2 e3 e4 HBK HFI HTK HBN HPRE HMEM
                            have hwb : -1 ≤ wb := by
                              have h9 := HFI.out
                              unfold fitsB at h9
                              have h8 := (Bool.and_eq_true _ _ ▸ h9 : _ ∧ _).2
                              cases d with
                              | true => simp only [if_true, dirB, Bool.and_eq_true, decide_eq_true_eq] at h8; omega
                              | false => simp only [Bool.false_eq_true, if_false, fileB, headB, Bool.and_eq_true, decide_eq_true_eq] at h8; omega
                            have hbs8 : bs.length ≤ 8 := fits_few HFI.out
                            have hbsn : bs.length = sn := HBK.out.len
                            have HSN : Hid (bs.length = sn) := hbsn
                            have hsn8 : sn ≤ 8 := by omega
                            obtain ⟨⟨u0, v0⟩, huv⟩ : ∃ x, untilX ls wb = x := ⟨_, rfl⟩
                            have HUV : Hid (untilX ls wb = (u0, v0)) := huv
                            have CU : Hid (∀ W, Below w.heap.size w W → Calls Tryz.prog 63 #[.slice la ln lc, .int .i64 wb] W fun e w' => e = .returned (.tuple #[.int .i64 u0, .bool v0]) ∧ Below W.heap.size W w') := fun W hb => Lea.refUntil_val (HLL.out.below hb) wb u0 v0 HUV.out
                            have hx5a := cell_al x5
                            have f0 := cell_al e0
                            clear hip hix hbsn huv hbs8 hSr hb
                            go_wp2_with fail
                            refine (CU.out _ (bel_tr (bel_tr B3.out HB.out) (bel_al _ _))).mono ?_
                            rintro e w5 ⟨rfl, b5⟩
                            have X3 : Hid (w5.cell? ⟨wr.heap.size, 3, none⟩ = some (.slice sa sn sc)) := bel_cell b5 (World.cell?_alloc_new wr _ _ 3)
                            have x4b := bel_cell b5 (World.cell?_alloc_new wr _ _ 4)
                            have hQ5 : wr.heap.size < w5.heap.size := by have := b5.size; simp at this; omega
                            have B5 : Hid (Below w3.heap.size w3 w5) := HB.out.trans ((bel_tr (bel_al _ _) b5).mono HB.out.size)
                            have NO5 : Hid (Lea.NO w3.heap.size w5 fa m fc (idB (blksL (ns.take i))) gg) := (HNO.out.below (bel_al _ _)).below b5
                            have HGQ : Hid (∀ z, gg = some z → z ≠ wr.heap.size) := fun z hz => by have := (HNO.out.own z hz).1; omega
                            have hQ3 : w3.heap.size ≤ wr.heap.size := HB.out.size
                            clear b5 CU e0 e1 e2 e3 e4 x4 x5 hx5a f0 HNO HB
                            generalize wr.heap.size = Q at *
                            have hcase : (¬ 0 ≤ wb) ∨ (0 ≤ wb ∧ v0 = true) ∨ (0 ≤ wb ∧ v0 = false) := by
                              by_cases hc : 0 ≤ wb
                              · cases v0
                                · exact .inr (.inr ⟨hc, rfl⟩)
                                · exact .inr (.inl ⟨hc, rfl⟩)
                              · exact .inl hc
                            have HLN : Hid ((¬ 0 ≤ wb) ∨ (0 ≤ wb ∧ v0 = true) → ∀ x ∈ ns.take (i + 1), x.wr ≠ -1 → (untilX ls x.wr).2 = true) := fun hc x hx hw => by
                              rw [HTK.out] at hx
                              rcases List.mem_append.1 hx with hx | hx
                              · exact HLS.out x hx hw
                              · rw [List.mem_singleton.1 hx] at hw ⊢
                                simp only at hw ⊢
                                rcases hc with hc | hc
                                · omega
                                · rw [HUV.out]; exact hc.2
                            rcases hcase with hc | hc | hc
                            rotate_left 2
                            · have tc : decide (0 ≤ wb) = true := decide_eq_true hc.1
                              obtain ⟨hc0, rfl⟩ := hc
                              have hu0 : u = false := HNOT.out (fun h => by
                                have h9 := (rts_iff.1 h).2.2.2.2.2.2.2.2 _ HMEM.out (by simp only; omega)
                                simp only at h9
                                rw [HUV.out] at h9
                                cases h9)
                              subst hu0
                              go_wp2
                              go_ret
                              exact ⟨rfl, bel_tr B3.out B5.out⟩
                            all_goals
                              first
                                | (have tc : decide (0 ≤ wb) = false := decide_eq_false hc
                                   have HLX : Hid (∀ x ∈ ns.take (i + 1), x.wr ≠ -1 → (untilX ls x.wr).2 = true) := HLN.out (.inl hc))
                                | (have tc : decide (0 ≤ wb) = true := decide_eq_true hc.1
                                   have HLX : Hid (∀ x ∈ ns.take (i + 1), x.wr ≠ -1 → (untilX ls x.wr).2 = true) := HLN.out (.inr hc)
                                   have hv0 : v0 = true := hc.2
                                   subst hv0)
                              clear hc HLN
                              go_wp2
                              clear x4b
                              go_loopg [5, 10] sn (fun g v5 v10 wi => ∃ (k : Nat) (fa : Option Addr) (m fc : Nat) (gg : Option Nat), k + g = sn ∧ v10 = .int .i64 k ∧ v5 = .slice fa m fc ∧ m ≤ 8 * i + k ∧ Lea.NO w3.heap.size wi fa m fc (idB (blksL (ns.take i) ++ bs.take k)) gg ∧ (∀ z, gg = some z → z ≠ Q) ∧ SoFar ⟨tx, nb, ng, now, ns, ls⟩ (blksL (ns.take i) ++ bs.take k) ∧ wi.cell? ⟨Q, 3, none⟩ = some (.slice sa sn sc) ∧ Below w3.heap.size w3 wi)
                              case atStart => exact ⟨0, fa, m, fc, gg, by omega, rfl, rfl, by omega, by simpa using NO5.out, HGQ.out, by simpa using HSF.out, X3.out, B5.out⟩
                              case round =>
                                obtain ⟨k, fa, m, fc, gg, hkg, rfl, rfl, hmk, hNO, hgQ, hSF, hx3, hb⟩ := hrel
                                have HNO : Hid (Lea.NO w3.heap.size wr fa m fc (idB (blksL (ns.take i) ++ bs.take k)) gg) := hNO
                                have HGQ2 : Hid (∀ z, gg = some z → z ≠ Q) := hgQ
                                have HSF2 : Hid (SoFar ⟨tx, nb, ng, now, ns, ls⟩ (blksL (ns.take i) ++ bs.take k)) := hSF
                                have HX3 : Hid (wr.cell? ⟨Q, 3, none⟩ = some (.slice sa sn sc)) := hx3
                                have HB : Hid (Below w3.heap.size w3 wr) := hb
                                clear hNO hgQ hSF
                                by_cases hk : k < sn
                                · have hkb : k < bs.length := by rw [HSN.out]; exact hk
                                  obtain ⟨bb, bo, hba, hbc⟩ := (HBK.out.below hb).cells (by show 0 < sn; omega)
                                  simp only at hba
                                  subst hba
                                  have c0 : wr.cell? ⟨bb, bo + k * 3, none⟩ = some (.int .i64 bs[k].id) := hbc k hkb 0 _ rfl
                                  have c1 : wr.cell? ⟨bb, bo + k * 3 + 1, none⟩ = some (.int .i64 bs[k].gen) := hbc k hkb 1 _ rfl
                                  have c2 : wr.cell? ⟨bb, bo + k * 3 + 2, none⟩ = some (.int .i64 bs[k].len) := hbc k hkb 2 _ rfl
                                  have HTB : Hid (bs.take (k + 1) = bs.take k ++ [bs[k]]) := List.take_succ_eq_append_getElem hkb
                                  generalize bs[k] = bk at *
                                  obtain ⟨bi, bg, bl⟩ := bk
                                  simp only at c0 c1 c2
                                  clear hbc hkb hb
                                  go_wp2
                                  clear hx3 c0 c1 c2
                                  generalize hW6 : wr.alloc (.cells #[.int .i64 bi, .int .i64 bg, .int .i64 bl] 81) = W6 at *
                                  have P0 : Hid (W6.cell? ⟨wr.heap.size, 0, none⟩ = some (.int .i64 bi)) := hW6 ▸ World.cell?_alloc_new wr _ _ 0
                                  have P1 : Hid (W6.cell? ⟨wr.heap.size, 1, none⟩ = some (.int .i64 bg)) := hW6 ▸ World.cell?_alloc_new wr _ _ 1
                                  have BA : Hid (Below wr.heap.size wr W6) := hW6 ▸ bel_al _ _
                                  have hP6 : wr.heap.size < W6.heap.size := World.block_lt_of_cell? _ _ P0.out
                                  have NO6 : Hid (Lea.NO w3.heap.size W6 fa m fc (idB (blksL (ns.take i) ++ bs.take k)) gg) := HNO.out.below BA.out
                                  have HGP : Hid (∀ z, gg = some z → z ≠ wr.heap.size) := fun z hz => by have := (HNO.out.own z hz).1; omega
                                  have X36 : Hid (W6.cell? ⟨Q, 3, none⟩ = some (.slice (some ⟨bb, bo, none⟩) sn sc)) := bel_cell BA.out HX3.out
                                  have B6 : Hid (Below w3.heap.size w3 W6) := HB.out.trans (BA.out.mono HB.out.size)
                                  obtain ⟨ib, hib⟩ := NO6.out.ints
                                  have HIB : Hid (Ints W6 .i64 fa ib 0 (idB (blksL (ns.take i) ++ bs.take k))) := hib
                                  have HIL : Hid ((idB (blksL (ns.take i) ++ bs.take k)).length = m) := NO6.out.len
                                  have hm480 : m ≤ 500 := by omega
                                  clear hW6 hib BA HNO HX3
                                  generalize wr.heap.size = P at *
                                  go_loopg [12] m (fun g v12 wj => ∃ j : Nat, j + g = m ∧ v12 = .int .i64 j ∧ (∀ z (hz : z < (idB (blksL (ns.take i) ++ bs.take k)).length), z < j → (idB (blksL (ns.take i) ++ bs.take k))[z] ≠ bi) ∧ Below W6.heap.size W6 wj)
                                  case atStart => exact ⟨0, by omega, rfl, fun z hz h0 => by omega, Below.refl _ _⟩
                                  case round =>
                                    obtain ⟨j, hjg, rfl, hall, hbj⟩ := hrel
                                    have HALL : Hid (∀ z (hz : z < (idB (blksL (ns.take i) ++ bs.take k)).length), z < j → (idB (blksL (ns.take i) ++ bs.take k))[z] ≠ bi) := hall
                                    have HBJ : Hid (Below W6.heap.size W6 wr) := hbj
                                    have p0 := bel_cell hbj P0.out
                                    clear hall
                                    by_cases hj : j < m
                                    · have hjl : j < (idB (blksL (ns.take i) ++ bs.take k)).length := by rw [HIL.out]; exact hj
                                      have hIj := HIB.out.below hbj
                                      have hjc : wr.cell? ⟨ib, j, none⟩ = some (.int .i64 (idB (blksL (ns.take i) ++ bs.take k))[j]) := by
                                        have := hIj.cell j hjl
                                        rwa [Nat.zero_add] at this
                                      obtain rfl := hIj.addr (by omega)
                                      have HEQ : Hid ((idB (blksL (ns.take i) ++ bs.take k))[j] = bi → u = false) := fun he => HNOT.out (fun h => by
                                        have h9 := SoFar.of (rts_iff.1 h).2.2.2.2.2.2.1 (HPRE.out (k + 1))
                                        rw [HTB.out, ← List.append_assoc] at h9
                                        have h8 := (List.pairwise_append.1 h9.pw).2.2
                                        unfold idB at he hjl
                                        rw [List.getElem_map] at he
                                        rw [List.length_map] at hjl
                                        exact h8 _ (List.getElem_mem hjl) _ (List.mem_singleton.2 rfl) he)
                                      have HNXT : Hid ((idB (blksL (ns.take i) ++ bs.take k))[j] ≠ bi → ∀ z (hz : z < (idB (blksL (ns.take i) ++ bs.take k)).length), z < j + 1 → (idB (blksL (ns.take i) ++ bs.take k))[z] ≠ bi) := fun hn z hz hzj => by
                                        by_cases hzz : z = j
                                        · subst hzz; exact hn
                                        · exact HALL.out z hz (by omega)
                                      generalize (idB (blksL (ns.take i) ++ bs.take k))[j] = iz at *
                                      clear hbj hIj hjl
                                      by_cases hiz : iz = bi
                                      · have hizb : (iz == bi) = true := by simpa using hiz
                                        have hu0 : u = false := HEQ.out hiz
                                        subst hu0
                                        clear hiz
                                        go_wp2
                                        go_quiet (fail)
                                        go_wp2
                                        go_ret
                                        exact ⟨rfl, bel_tr B3.out (bel_tr B6.out (bel_tr HBJ.out (bel_drewN _ _)))⟩
                                      · have hizb : (iz == bi) = false := by simpa using hiz
                                        have HNY : Hid _ := HNXT.out hiz
                                        clear hiz
                                        go_wp2
                                        go_quiet (fail)
                                        go_wp2
                                        go_roundg (m - (j + 1))
                                        case measure => omega
                                        case rel => exact ⟨j + 1, by omega, by go_num, HNY.out, bel_tr HBJ.out (bel_drewN _ _)⟩
                                    · obtain rfl : j = m := by omega
                                      have hgd : decide ((j : Int) < (j : Int)) = false := decide_eq_false (by omega)
                                      have HDIS : Hid (∀ x ∈ blksL (ns.take i) ++ bs.take k, x.id ≠ bi) := fun x hx => by
                                        obtain ⟨z, hz, rfl⟩ := List.getElem_of_mem hx
                                        have h9 := HALL.out z (by unfold idB; rw [List.length_map]; exact hz) (by rw [← HIL.out]; unfold idB; rw [List.length_map]; exact hz)
                                        unfold idB at h9
                                        rw [List.getElem_map] at h9
                                        exact h9
                                      have NOj : Hid (Lea.NO w3.heap.size wr fa j fc (idB (blksL (ns.take i) ++ bs.take k)) gg) := NO6.out.below hbj
                                      have p1 := bel_cell hbj P1.out
                                      have q3 := bel_cell hbj X36.out
                                      have BJ3 : Hid (Below w3.heap.size w3 wr) := B6.out.trans (hbj.mono B6.out.size)
                                      have hPj : P < wr.heap.size := World.block_lt_of_cell? _ _ p0
                                      have hQj : Q < wr.heap.size := World.block_lt_of_cell? _ _ q3
                                      have p0a := cell_al p0
                                      have HAP : Hid (∀ o a8 c8 w8 g8, Cel (Grow (fun k => w3.heap.size ≤ k) (wr.alloc o) w8) w8 1 (.slice a8 (j + 1) c8) (j + 1) (rowC Lea.intC (idB (blksL (ns.take i) ++ bs.take k)) ++ rowC Lea.intC [bi]) g8 → Stay (fun k => gg = some k) (wr.alloc o) w8 → (∀ z, g8 = some z → gg = some z ∨ (wr.alloc o).heap.size ≤ z) → Lea.NO w3.heap.size w8 a8 (j + 1) c8 (idB (blksL (ns.take i) ++ bs.take (k + 1))) g8 ∧ Below w3.heap.size w3 w8 ∧ (∀ z, g8 = some z → z ≠ Q) ∧ w8.cell? ⟨Q, 3, none⟩ = some (.slice (some ⟨bb, bo, none⟩) sn sc) ∧ w8.cell? ⟨P, 0, none⟩ = some (.int .i64 bi) ∧ w8.cell? ⟨P, 1, none⟩ = some (.int .i64 bg)) := fun o a8 c8 w8 g8 h1 h2 h3 => by
                                        have hsz : w3.heap.size ≤ (wr.alloc o).heap.size := Nat.le_trans BJ3.out.size (bel_al wr o).size
                                        have hN := (NOj.out.below (bel_al wr o)).app (ys := [bi]) rfl h1 hsz
                                        have hB := (NOj.out.below (bel_al wr o)).appBelow h2 hsz
                                        refine ⟨?_, (BJ3.out.trans ((bel_al wr o).mono BJ3.out.size)).trans hB, fun z hz => ?_, stay_cellR h2 (bel_cell (bel_al wr o) q3) (fun e => HGQ2.out _ e rfl), stay_cellR h2 (bel_cell (bel_al wr o) p0) (fun e => HGP.out _ e rfl), stay_cellR h2 (bel_cell (bel_al wr o) p1) (fun e => HGP.out _ e rfl)⟩
                                        · have e9 : idB (blksL (ns.take i) ++ bs.take (k + 1)) = idB (blksL (ns.take i) ++ bs.take k) ++ [bi] := by
                                            rw [HTB.out, ← List.append_assoc]
                                            simp [idB]
                                          rw [e9]
                                          exact hN
                                        · rcases h3 z hz with e | e
                                          · exact HGQ2.out z e
                                          · have := (bel_al wr o).size; omega
                                      clear hbj p1 q3
                                      by_cases r1 : nb ≤ bi
                                      · have t1 : decide (nb ≤ bi) = true := decide_eq_true r1
                                        have hu0 : u = false := HNOT.out (fun h => by
                                          have h9 := SoFar.of (rts_iff.1 h).2.2.2.2.2.2.1 (HPRE.out (k + 1))
                                          rw [HTB.out, ← List.append_assoc] at h9
                                          have := (h9.lo ⟨bi, bg, bl⟩ (List.mem_append_right _ (List.mem_singleton.2 rfl))).1
                                          simp only at this
                                          omega)
                                        subst hu0
                                        go_wp2_with (at_builtin; refine wpList_append_cel _ rfl _ _ 75 75 rfl 3 ti _ 1 8 Tryz.underlying75 hi1 hi2 hi3 hi4 rfl (O := fun k => w3.heap.size ≤ k) _ j _ gg rfl ((NOj.out.below (bel_al _ _)).cel) _ 1 (rowC Lea.intC [bi]) rfl (Lea.src_int wr bi) (by unfold maxLen; omega) (by omega) ?_; intro a8 c8 w8 g8 hC8 hS8 hf8; have A8 : Hid _ := HAP.out _ a8 c8 w8 g8 hC8 hS8 hf8; have z0 := A8.out.2.2.2.2.1; have z1 := A8.out.2.2.2.2.2; have s1 := (S3.out.below A8.out.2.1).c1; have s2 := (S3.out.below A8.out.2.1).c2; simp only at s1 s2; clear hC8 hS8 hf8)
                                        go_ret
                                        exact ⟨rfl, bel_tr B3.out A8.out.2.1⟩
                                      · have t1 : decide (nb ≤ bi) = false := decide_eq_false r1
                                        by_cases r2 : ng ≤ bg
                                        · have t2 : decide (ng ≤ bg) = true := decide_eq_true r2
                                          have hu0 : u = false := HNOT.out (fun h => by
                                            have h9 := SoFar.of (rts_iff.1 h).2.2.2.2.2.2.1 (HPRE.out (k + 1))
                                            rw [HTB.out, ← List.append_assoc] at h9
                                            have := (h9.lo ⟨bi, bg, bl⟩ (List.mem_append_right _ (List.mem_singleton.2 rfl))).2
                                            simp only at this
                                            omega)
                                          subst hu0
                                          go_wp2_with (at_builtin; refine wpList_append_cel _ rfl _ _ 75 75 rfl 3 ti _ 1 8 Tryz.underlying75 hi1 hi2 hi3 hi4 rfl (O := fun k => w3.heap.size ≤ k) _ j _ gg rfl ((NOj.out.below (bel_al _ _)).cel) _ 1 (rowC Lea.intC [bi]) rfl (Lea.src_int wr bi) (by unfold maxLen; omega) (by omega) ?_; intro a8 c8 w8 g8 hC8 hS8 hf8; have A8 : Hid _ := HAP.out _ a8 c8 w8 g8 hC8 hS8 hf8; have z0 := A8.out.2.2.2.2.1; have z1 := A8.out.2.2.2.2.2; have s1 := (S3.out.below A8.out.2.1).c1; have s2 := (S3.out.below A8.out.2.1).c2; simp only at s1 s2; clear hC8 hS8 hf8)
                                          go_ret
                                          exact ⟨rfl, bel_tr B3.out A8.out.2.1⟩
                                        · have t2 : decide (ng ≤ bg) = false := decide_eq_false r2
                                          have HSN2 : Hid (SoFar ⟨tx, nb, ng, now, ns, ls⟩ (blksL (ns.take i) ++ bs.take (k + 1))) := by
                                            have h9 := HSF2.out.next (b := ⟨bi, bg, bl⟩) HDIS.out (by simp only; omega) (by simp only; omega)
                                            rw [List.append_assoc, ← HTB.out] at h9
                                            exact h9
                                          go_wp2_with (at_builtin; refine wpList_append_cel _ rfl _ _ 75 75 rfl 3 ti _ 1 8 Tryz.underlying75 hi1 hi2 hi3 hi4 rfl (O := fun k => w3.heap.size ≤ k) _ j _ gg rfl ((NOj.out.below (bel_al _ _)).cel) _ 1 (rowC Lea.intC [bi]) rfl (Lea.src_int wr bi) (by unfold maxLen; omega) (by omega) ?_; intro a8 c8 w8 g8 hC8 hS8 hf8; have A8 : Hid _ := HAP.out _ a8 c8 w8 g8 hC8 hS8 hf8; have z0 := A8.out.2.2.2.2.1; have z1 := A8.out.2.2.2.2.2; have s1 := (S3.out.below A8.out.2.1).c1; have s2 := (S3.out.below A8.out.2.1).c2; simp only at s1 s2; clear hC8 hS8 hf8)
                                          go_roundg (sn - (k + 1))
                                          case measure => omega
                                          case rel => exact ⟨k + 1, a8, j + 1, c8, g8, by omega, by go_num, rfl, by omega, A8.out.1, A8.out.2.2.1, HSN2.out, A8.out.2.2.2.1, A8.out.2.1⟩
                                · obtain rfl : k = sn := by omega
                                  have hgd : decide ((k : Int) < (k : Int)) = false := decide_eq_false (by omega)
                                  have hbt : bs.take k = bs := List.take_of_length_le (by rw [HSN.out]; omega)
                                  rw [hbt, ← HBN.out] at HNO HSF2
                                  clear hb hbt
                                  go_wp2
                                  go_roundg (nn - (i + 1))
                                  case measure => omega
                                  case rel => exact ⟨i + 1, fa, m, fc, gg, by omega, by go_num, rfl, by omega, HNO.out, HSF2.out, HLX.out, HB.out⟩
                          · obtain rfl : i = nn := by omega
                            have hgd : decide ((i : Int) < (i : Int)) = false := decide_eq_false (by omega)
                            have hu1 : u = true := by
                              refine HU.out.2 (rts_iff.2 ⟨HRNG.out.1, HRNG.out.2.1, HRNG.out.2.2.1, HRNG.out.2.2.2, HRG.out, HOV.out, ?_, HRL.out, ?_⟩)
                              · have h9 := HSF.out
                                rw [List.take_of_length_le (by rw [HNN.out]; omega)] at h9
                                exact ⟨h9.pw, h9.lo⟩
                              · have h9 := HLS.out
                                rw [List.take_of_length_le (by rw [HNN.out]; omega)] at h9
                                exact h9
                            subst hu1
                            clear hb hlt hSr
                            go_wp2
                            go_ret
                            exact ⟨rfl, bel_tr B3.out HB.out⟩
                      · have hgt : decide (0 < om) = true := decide_eq_true (by omega)
                        have hgt2 : decide ((0 : Int) < (om : Int)) = true := decide_eq_true (by omega)
                        have hu0 : u = false := HNOT.out (fun h => hom0 (by rw [← HOM.out, h.over]; rfl))
                        subst hu0
                        go_wp2
                        go_ret
                        exact ⟨rfl, B3.out⟩

end Go.Proofs.YtigomhilcnnjdaaGreat.Spa

/- The contract of space.New. -/
namespace Go.Proofs.YtigomhilcnnjdaaGreat.Spa
open Go.RowKit Go.Proofs.YtigomhilcnnjdaaGreat
open Go.Proofs.YtigomhilcnnjdaaGreat.Lea (LS Ls findX putL renX LL LO LsR lsC wideL)
open Go.Proofs.YtigomhilcnnjdaaGreat.Edi (Ed Nm EdAt edV)

theorem lot_root (base : Nat) (w : World) (hb : base ≤ w.heap.size) : OwnM base (w.heap.size + 1) (w.alloc (.cells #[.string rootP, .bool true, .int .i64 (-1), .slice none 0 0, .int .i64 (-1)] 55)) newS ⟨some ⟨w.heap.size, 0, none⟩, 1, 1⟩ noS [(rootN, noS)] (some w.heap.size) none := by
  have hc := World.cell?_alloc_new w #[.string rootP, .bool true, .int .i64 (-1), .slice none 0 0, .int .i64 (-1)] 55
  have hz : (w.alloc (.cells #[.string rootP, .bool true, .int .i64 (-1), .slice none 0 0, .int .i64 (-1)] 55)).heap.size = w.heap.size + 1 := by simp
  refine ⟨⟨.row w.heap.size 1 rfl rfl hb (by omega) (Nat.le_refl _) (by decide) (fun j hj => ?_) (fun j hj => ?_), rfl, fun x hx => ?_, fun x hx k hk => ?_⟩, rfl, Lea.LO.none _ _, fun k hk => (by simp), fun x hx k hk => (by simp), fun k hk => (by cases hk; omega), fun k hk => (by cases hk), fun x hx k hk => ?_⟩
  · have hj5 : j < 5 := hj
    rw [hc j]
    match j, hj5 with
    | 0, _ => rfl
    | 1, _ => rfl
    | 2, _ => rfl
    | 3, _ => rfl
    | 4, _ => rfl
  · have hj5 : j < 5 := hj
    refine ⟨?_, World.frozen?_alloc_new w _ _ j⟩
    rw [hc j]
    match j, hj5 with
    | 0, _ => rfl
    | 1, _ => rfl
    | 2, _ => rfl
    | 3, _ => rfl
    | 4, _ => rfl
  · cases List.mem_singleton.1 hx
    exact free_no _ _ rootN rfl (by decide)
  · cases List.mem_singleton.1 hx
    unfold noS RS.blk
    simp
  · cases List.mem_singleton.1 hx
    unfold noS RS.blk at hk
    simp at hk

set_option maxRecDepth 100000 in
set_option maxHeartbeats 4000000 in
theorem new_val (w : World) :
    Calls Tryz.prog 9 #[] w fun r w' => (∃ N L ps g gl base M, w.heap.size ≤ base ∧ r = .returned (spV newS N L) ∧ OwnM base M w' newS N L ps g gl) ∧ Below w.heap.size w w' := by
  have hst := run_store_str
  have hst2 : ∀ (w : World) (a : Addr) (x : Option Addr) (n c : Nat) (m : Mode), (store a (.slice x n c) m).run Tryz.prog w = stored Tryz.prog w a (.slice x n c) m := fun w a x n c m => run_store_any w a _ m rfl
  go_enter Tryz.func9, Tryz.ntmps9
  go_wp2_with (go_at_call 21; refine (newDir_val _ _).mono ?_; rintro e w1 ⟨rfl, c1⟩; have B1 : Hid (Below w.heap.size w w1) := bel_tr (bel_al _ _) c1; have HS1 : Hid (SpC w1 w.heap.size zeroS noS noS) := (SpC.new w 26 zeroS noS noS).below c1; have p := fun o => HS1.out.below (bel_al w1 o); have p0 := fun o => (p o).c0; have p1 := fun o => (p o).c1; have p2 := fun o => (p o).c2; have p3 := fun o => (p o).c3; have p4 := fun o => (p o).c4; have p5 := fun o => (p o).c5; have pf := fun o => (p o).fr; simp only [zeroS, noS] at p0 p1 p2 p3 p4 p5; unfold ndV; simp only; clear c1 p)
  have hl := World.block_lt_of_cell? _ _ HS1.out.c0
  simp only at hl
  obtain ⟨q1, q2⟩ := put6_at (HS1.out.below (bel_al w1 (.cells #[.string rootP, .bool true, .int .i64 (-1), .slice none 0 0, .int .i64 (-1)] 55))) newS ⟨some ⟨w1.heap.size, 0, none⟩, 1, 1⟩ noS
  have hO := (lot_root (w.heap.size + 1) w1 hl).out q2 (fun k hk => .inl (by omega))
  have hB : Below w.heap.size w (put6 (w1.alloc (.cells #[.string rootP, .bool true, .int .i64 (-1), .slice none 0 0, .int .i64 (-1)] 55)) w.heap.size newS ⟨some ⟨w1.heap.size, 0, none⟩, 1, 1⟩ noS) := ((Stay.of_below (O := fun k => w.heap.size ≤ k) (bel_tr B1.out (bel_al _ _))).then_same (q2.mono (fun k hk => by omega))).below (Nat.le_refl _) (fun k hk => hk)
  change bodyPost _ _ _ _ _ (put6 (w1.alloc (.cells #[.string rootP, .bool true, .int .i64 (-1), .slice none 0 0, .int .i64 (-1)] 55)) w.heap.size newS ⟨some ⟨w1.heap.size, 0, none⟩, 1, 1⟩ noS)
  clear p0 p1 p2 p3 p4 p5 pf q2
  generalize put6 (w1.alloc (.cells #[.string rootP, .bool true, .int .i64 (-1), .slice none 0 0, .int .i64 (-1)] 55)) w.heap.size newS ⟨some ⟨w1.heap.size, 0, none⟩, 1, 1⟩ noS = W at *
  refine bodyPost_ret (v := spV newS ⟨some ⟨w1.heap.size, 0, none⟩, 1, 1⟩ noS) ?_ rfl ⟨⟨_, _, _, _, _, w.heap.size + 1, _, by omega, rfl, hO⟩, hB⟩
  obtain ⟨j0, j1, j2, j3, j4, j5, _⟩ := q1
  unfold spV
  simp only [results, Tryz.results9]
  simp [go_sem, j0, j1, j2, j3, j4, j5]

end Go.Proofs.YtigomhilcnnjdaaGreat.Spa

/- The contract of space.Stat. -/
namespace Go.Proofs.YtigomhilcnnjdaaGreat.Spa
open Go.RowKit Go.Proofs.YtigomhilcnnjdaaGreat
open Go.Proofs.YtigomhilcnnjdaaGreat.Lea (LS Ls findX putL renX LL LO LsR lsC wideL)
open Go.Proofs.YtigomhilcnnjdaaGreat.Edi (Ed Nm EdAt edV)

end Go.Proofs.YtigomhilcnnjdaaGreat.Spa

/- The contract of the statements' examples. -/
namespace Go.Proofs.YtigomhilcnnjdaaGreat.Spa
open Go.RowKit Go.Proofs.YtigomhilcnnjdaaGreat
open Go.Proofs.YtigomhilcnnjdaaGreat.Lea (LS Ls findX putL renX LL LO LsR lsC wideL)
open Go.Proofs.YtigomhilcnnjdaaGreat.Edi (Ed Nm EdAt edV)

theorem nm5 (w : World) (o p : Obj) (t : TypeId) : Nm (((w.alloc o).alloc p).alloc (.cells #[.int .i64 5] t)) (some ⟨w.heap.size + 1 + 1, 0, none⟩) 1 [5] :=
  ⟨rfl, by decide, fun _ => ⟨w.heap.size + 1 + 1, 0, rfl, fun j hj => by
    have hj1 : j < 1 := hj
    obtain rfl : j = 0 := by omega
    have h := World.cell?_alloc_new ((w.alloc o).alloc p) #[.int .i64 5] t 0
    rw [show ((w.alloc o).alloc p).heap.size = w.heap.size + 1 + 1 by simp] at h
    exact h⟩⟩

theorem cell_al2 {w : World} {a : Addr} {v : Value} (h : w.cell? a = some v) (o p : Obj) : ((w.alloc o).alloc p).cell? a = some v := bel_cell (bel_tr (bel_al _ _) (bel_al _ _)) h

end Go.Proofs.YtigomhilcnnjdaaGreat.Spa

/- Two spaces that are the same, in whatever memory. -/
namespace Go.Proofs.YtigomhilcnnjdaaGreat.Spa
open Go.RowKit Go.Proofs.YtigomhilcnnjdaaGreat
open Go.Proofs.YtigomhilcnnjdaaGreat.Lea (LS Ls LL)

set_option maxRecDepth 100000 in
set_option maxHeartbeats 2000000 in
theorem sameN_val {r r2 : RS} {xs : NS} {w : World} (h : NL w r.a r.n xs) (h2 : NL w r2.a r2.n xs) :
    Calls Tryz.prog 16 #[.slice r.a r.n r.c, .slice r2.a r2.n r2.c] w fun e w' => e = .returned (.bool true) ∧ Below w.heap.size w w' := by
  obtain ⟨b, off, ps, hm, hl, hN⟩ := h.ex
  obtain ⟨b2, off2, ps2, hm2, hl2, hN2⟩ := h2.ex
  have hlid := h.lid
  unfold maxLen at hlid
  obtain ⟨a, n, c⟩ := r
  obtain ⟨a2, n2, c2⟩ := r2
  simp only at hl hl2 hN hN2 hlid
  obtain rfl : n2 = n := by omega
  have HN : Hid (Nds w a b off ps) := hN
  have HN2 : Hid (Nds w a2 b2 off2 ps2) := hN2
  have HP : Hid (ps.length = n2) := by rw [← hl, ← hm, List.length_map]; exact rfl
  have HP2 : Hid (ps2.length = n2) := by rw [← hl2, ← hm2, List.length_map]; exact rfl
  have HE : Hid (∀ i (hi : i < ps.length) (hi2 : i < ps2.length), ps2[i].1 = ps[i].1) := fun i hi hi2 => by
    have h1 : xs[i]? = some ps[i].1 := by rw [← hm, List.getElem?_map, List.getElem?_eq_getElem hi]; rfl
    have h3 : xs[i]? = some ps2[i].1 := by rw [← hm2, List.getElem?_map, List.getElem?_eq_getElem hi2]; rfl
    rw [h1] at h3
    exact (Option.some.inj h3).symm
  clear h h2 hm hm2 hl hl2 hN hN2
  have hst := run_store_str
  have hst2 : ∀ (w : World) (a : Addr) (x : Option Addr) (n c : Nat) (m : Mode), (store a (.slice x n c) m).run Tryz.prog w = stored Tryz.prog w a (.slice x n c) m := fun w a x n c m => run_store_any w a _ m rfl
  go_enter Tryz.func16, Tryz.ntmps16
  go_wp2
  go_loopg [5] n2 (fun g v wi => ∃ i : Nat, i + g = n2 ∧ v = .int .i64 i ∧ Below w.heap.size w wi)
  case atStart => exact ⟨0, by omega, rfl, Below.refl _ _⟩
  case round =>
    obtain ⟨i, hig, rfl, hb⟩ := hrel
    have HB : Hid (Below w.heap.size w wr) := hb
    by_cases hlt : i < n2
    · have hip : i < ps.length := by rw [HP.out]; exact hlt
      have hip2 : i < ps2.length := by rw [HP2.out]; exact hlt
      have hK := HN.out.below hb
      have hK2 := HN2.out.below hb
      have hok := hK.ok _ (List.getElem_mem hip)
      have hok2 := hK2.ok _ (List.getElem_mem hip2)
      obtain ⟨e0, e1, e2, e3, e4⟩ := hK.at hip
      obtain ⟨d0, d1, d2, d3, d4⟩ := hK2.at hip2
      obtain rfl := hK.addr (by omega)
      obtain rfl := hK2.addr (by omega)
      have hsame := HE.out i hip hip2
      rw [hsame] at d0 d1 d2 d4
      have hok2b : Blks wr ps2[i].2 ps[i].1.bs := hsame ▸ hok2.bs
      have HK1 : Hid (Blks wr ps[i].2 ps[i].1.bs) := hok.bs
      have HK2 : Hid (Blks wr ps2[i].2 ps[i].1.bs) := hok2b
      clear hsame hok hok2 hok2b hK hK2 hb
      generalize ps2[i].2 = y at *
      generalize ps[i] = x at *
      obtain ⟨⟨p, d, q, bs, wb⟩, ⟨sa, sn, sc⟩⟩ := x
      obtain ⟨ya, yn, yc⟩ := y
      simp only at e0 e1 e2 e3 e4 d0 d1 d2 d3 d4 HK1 HK2
      have hs := HK1.out.len
      have hy := HK2.out.len
      have hsl := HK1.out.lid
      unfold maxLen at hsl
      simp only at hs hy hsl
      obtain rfl : yn = sn := by omega
      have HS : Hid (bs.length = yn) := hs
      have f0 := cell_al d0
      have f1 := cell_al d1
      have f2 := cell_al d2
      have f3 := cell_al d3
      have f4 := cell_al d4
      clear hs hy d0 d1 d2 d3 d4 hip hip2
      go_wp2
      generalize hW : (wr.alloc (.cells #[.string p, .bool d, .int .i64 q, .slice sa yn sc, .int .i64 wb] 55)).alloc (.cells #[.string p, .bool d, .int .i64 q, .slice ya yn yc, .int .i64 wb] 55) = W at *
      obtain ⟨k1, k2, k3, k4, k5, k6⟩ := two_boxes (w2 := W) (by rw [← hW]; exact Below.refl _ _)
      have X3 : Hid (W.cell? ⟨wr.heap.size, 3, none⟩ = some (.slice sa yn sc)) := k1 3 _ rfl
      have Y3 : Hid (W.cell? ⟨wr.heap.size + 1, 3, none⟩ = some (.slice ya yn yc)) := k3 3 _ rfl
      have BW : Hid (Below wr.heap.size wr W) := k5
      clear k1 k2 k3 k4 k5 k6 hW f0 f1 f2 f3 f4 e0 e1 e2 e3 e4
      rename World => wo
      go_loopg [8] yn (fun g v wi => ∃ j : Nat, j + g = yn ∧ v = .int .i64 j ∧ Below wo.heap.size wo wi)
      case atStart => exact ⟨0, by omega, rfl, Below.refl _ _⟩
      case round =>
        obtain ⟨j, hjg, rfl, hbj⟩ := hrel
        have HBJ : Hid (Below wo.heap.size wo wr) := hbj
        have x3 := bel_cell hbj X3.out
        have y3 := bel_cell hbj Y3.out
        by_cases hj : j < yn
        · have hjb : j < bs.length := by rw [HS.out]; exact hj
          obtain ⟨c1, o1, ha1, hc1⟩ := (HK1.out.below (bel_tr BW.out hbj)).cells (by show 0 < yn; omega)
          obtain ⟨c2, o2, ha2, hc2⟩ := (HK2.out.below (bel_tr BW.out hbj)).cells (by show 0 < yn; omega)
          simp only at ha1 ha2
          subst ha1 ha2
          have b0 : wr.cell? ⟨c1, o1 + j * 3, none⟩ = some (.int .i64 bs[j].id) := hc1 j hjb 0 _ rfl
          have b1 := hc1 j hjb 1 _ rfl
          have b2 := hc1 j hjb 2 _ rfl
          have d0 : wr.cell? ⟨c2, o2 + j * 3, none⟩ = some (.int .i64 bs[j].id) := hc2 j hjb 0 _ rfl
          have d1 := hc2 j hjb 1 _ rfl
          have d2 := hc2 j hjb 2 _ rfl
          clear hc1 hc2 hbj
          generalize bs[j].id = m0 at *
          generalize bs[j].gen = m1 at *
          generalize bs[j].len = m2 at *
          clear hjb
          go_wp2
          go_quiet (fail)
          go_wp2
          go_roundg (yn - (j + 1))
          case measure => omega
          case rel => exact ⟨j + 1, by omega, by go_num, bel_tr HBJ.out (bel_drewN _ _)⟩
        · obtain rfl : j = yn := by omega
          have hgd : decide ((j : Int) < (j : Int)) = false := decide_eq_false (by omega)
          clear hbj
          go_wp2
          go_roundg (n2 - (i + 1))
          case measure => omega
          case rel => exact ⟨i + 1, by omega, by go_num, bel_tr HB.out (bel_tr BW.out HBJ.out)⟩
    · obtain rfl : i = n2 := by omega
      have hgd : decide ((i : Int) < (i : Int)) = false := decide_eq_false (by omega)
      clear hb hlt
      go_wp2
      go_ret
      exact ⟨rfl, HB.out⟩

set_option maxRecDepth 100000 in
set_option maxHeartbeats 2000000 in
theorem sameS_val {s : Sp} {N L N2 L2 : RS} {w : World} (h : SpIn w s N L) (h2 : SpIn w s N2 L2) :
    Calls Tryz.prog 7 #[spV s N L, spV s N2 L2] w fun e w' => e = .returned (.bool true) ∧ Below w.heap.size w w' := by
  have CN : Hid (∀ W, Below w.heap.size w W → Calls Tryz.prog 16 #[.slice N.a N.n N.c, .slice N2.a N2.n N2.c] W fun e w' => e = .returned (.bool true) ∧ Below W.heap.size W w') := fun W hb => sameN_val (h.nl.below hb) (h2.nl.below hb)
  have HL : Hid (LL w L.a L.n L.c s.ls) := h.ll
  have HL2 : Hid (LL w L2.a L2.n L2.c s.ls) := h2.ll
  have e1 := h.ll.len
  have e2 := h2.ll.len
  have hlid : L.n ≤ 9223372036854775807 := by have h3 := h.ll.room; have h4 := h.ll.lid; unfold maxLen at h4; omega
  clear h h2
  obtain ⟨tx, nb, ng, now, ns, ls⟩ := s
  obtain ⟨na, nn, nc⟩ := N
  obtain ⟨na2, nn2, nc2⟩ := N2
  obtain ⟨la, ln, lc⟩ := L
  obtain ⟨la2, ln2, lc2⟩ := L2
  simp only at e1 e2 hlid HL HL2 CN
  obtain rfl : ln2 = ln := by omega
  have HS : Hid (ls.length = ln2) := e1
  clear e1 e2
  unfold spV
  simp only
  have hst2 : ∀ (w : World) (a : Addr) (x : Option Addr) (n c : Nat) (m : Mode), (store a (.slice x n c) m).run Tryz.prog w = stored Tryz.prog w a (.slice x n c) m := fun w a x n c m => run_store_any w a _ m rfl
  go_enter Tryz.func7, Tryz.ntmps7
  go_wp2
  generalize hW : (w.alloc (.cells #[.int .i64 tx, .int .i64 nb, .int .i64 ng, .int .i64 now, .slice na nn nc, .slice la ln2 lc] 26)).alloc (.cells #[.int .i64 tx, .int .i64 nb, .int .i64 ng, .int .i64 now, .slice na2 nn2 nc2, .slice la2 ln2 lc2] 26) = W at *
  obtain ⟨k1, k2, k3, k4, k5, k6⟩ := two_boxes (w2 := W) (by rw [← hW]; exact Below.refl _ _)
  have X4 : Hid (W.cell? ⟨w.heap.size, 4, none⟩ = some (.slice na nn nc)) := k1 4 _ rfl
  have X5 : Hid (W.cell? ⟨w.heap.size, 5, none⟩ = some (.slice la ln2 lc)) := k1 5 _ rfl
  have Y4 : Hid (W.cell? ⟨w.heap.size + 1, 4, none⟩ = some (.slice na2 nn2 nc2)) := k3 4 _ rfl
  have Y5 : Hid (W.cell? ⟨w.heap.size + 1, 5, none⟩ = some (.slice la2 ln2 lc2)) := k3 5 _ rfl
  have BW : Hid (Below w.heap.size w W) := k5
  clear k1 k2 k3 k4 k5 k6 hW
  go_loopg [5] ln2 (fun g v wi => ∃ j : Nat, j + g = ln2 ∧ v = .int .i64 j ∧ Below W.heap.size W wi)
  case atStart => exact ⟨0, by omega, rfl, Below.refl _ _⟩
  case round =>
    obtain ⟨j, hjg, rfl, hbj⟩ := hrel
    have HBJ : Hid (Below W.heap.size W wr) := hbj
    have x4 := bel_cell hbj X4.out
    have x5 := bel_cell hbj X5.out
    have y4 := bel_cell hbj Y4.out
    have y5 := bel_cell hbj Y5.out
    by_cases hj : j < ln2
    · have hjb : j < ls.length := by rw [HS.out]; exact hj
      obtain ⟨c1, o1, ha1, hc1⟩ := (HL.out.below (bel_tr BW.out hbj)).at (by omega)
      obtain ⟨c2, o2, ha2, hc2⟩ := (HL2.out.below (bel_tr BW.out hbj)).at (by omega)
      subst ha1 ha2
      obtain ⟨b0, b1⟩ := hc1 j hjb
      obtain ⟨d0, d1⟩ := hc2 j hjb
      clear hc1 hc2 hbj
      generalize ls[j].c = m0 at *
      generalize ls[j].u = m1 at *
      clear hjb
      go_wp2
      go_quiet (fail)
      go_wp2
      go_roundg (ln2 - (j + 1))
      case measure => omega
      case rel => exact ⟨j + 1, by omega, by go_num, bel_tr HBJ.out (bel_drewN _ _)⟩
    · obtain rfl : j = ln2 := by omega
      have hgd : decide ((j : Int) < (j : Int)) = false := decide_eq_false (by omega)
      clear hbj
      go_wp2_with fail
      refine (CN.out _ (bel_tr BW.out HBJ.out)).mono ?_
      rintro e w6 ⟨rfl, c6⟩
      have B6 : Hid _ := c6
      clear c6
      go_wp2
      go_ret
      exact ⟨rfl, bel_tr BW.out (bel_tr HBJ.out B6.out)⟩
end Go.Proofs.YtigomhilcnnjdaaGreat.Spa
