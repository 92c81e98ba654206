/- Part 28 of the proof: SpaceF2, SpaceF3, SpaceF4, SpaceF6, SpaceF5, SpaceF7, SpaceF8, SpaceF9, SpaceFA, SpaceFB, SpaceFC, SpaceFD, SpaceFK, SpaceFS. -/
import Derived.Test.YticiihjkgiookaaGreatB22
import Derived.Test.YticiihjkgiookaaGreatB27
import Derived.Shelf.SlSortCmp.NoneTotal

/- The contract of space.gathered: all blocks, sorted. -/
namespace Go.Proofs.YticiihjkgiookaaGreat.Spa
open Go.RowKit Go.Proofs.YticiihjkgiookaaGreat

def cmpB (x y : Blk) : Int := Lea.cmpI x.id y.id
theorem ltOf_cmp (x y : Blk) : ltOf cmpB x y = decide (x.id < y.id) := by
  unfold ltOf cmpB
  rw [Bool.eq_iff_iff, decide_eq_true_eq, decide_eq_true_eq]
  exact Lea.cmpI_neg
theorem swoB : Sort.SWO (ltOf cmpB) where
  irrefl x := by rw [ltOf_cmp]; simp
  trans x y z h1 h2 := by rw [ltOf_cmp] at *; simp at *; omega
  ntrans x y z h1 h2 := by rw [ltOf_cmp] at *; simp at *; omega

set_option maxRecDepth 100000 in
theorem gath1_val (x y : Blk) (w : World) : Calls Tryz.prog 122 #[.agg #[.int .i64 x.id, .int .i64 x.gen, .int .i64 x.len], .agg #[.int .i64 y.id, .int .i64 y.gen, .int .i64 y.len]] w fun e w' => e = .returned (.int .i64 (cmpB x y)) ∧ ∃ q os', w' = Sort.grow (w.drewN q) os' := by
  obtain ⟨i, g, l⟩ := x
  obtain ⟨i2, g2, l2⟩ := y
  unfold cmpB
  simp only
  obtain ⟨r, hr⟩ : ∃ r, Lea.cmpI i i2 = r := ⟨_, rfl⟩
  have CC : Hid (∀ W, Calls Tryz.prog 123 #[.int .i64 i, .int .i64 i2] W fun e w' => e = .returned (.int .i64 r) ∧ w' = W) := fun W => Lea.compare_val i i2 r W hr
  rw [hr]
  clear hr
  go_enter Tryz.func122, Tryz.ntmps122
  go_wp2_with (refine (CC.out _).mono ?_; rintro e w1 ⟨rfl, rfl⟩)
  go_ret
  exact ⟨rfl, 0, _, by rw [Sort.alloc_eq_grow, Sort.alloc_eq_grow, Sort.grow_grow]; rfl⟩

theorem bk_get (ps : List Blk) (i : Nat) (hi : i < ps.length) : ps.toArray[i]! = ps[i] := by
  simp [hi]

theorem holds_of_cel {O : Nat → Prop} {w : World} {blk n c : Nat} {ps : List Blk} (h : Cel O w 3 (.slice (some ⟨blk, 0, none⟩) n c) n (rowC blkC ps) (some blk)) (hn : ps.length = n) : Sort.HoldsK blkC 3 w blk 0 ps.toArray := by
  obtain ⟨hc1, hc2, _⟩ := h.cap2
  intro t ht
  rw [Sort.size_flatK, List.size_toArray] at ht
  have hd : t / 3 < ps.length := by omega
  have e := rowC_at wideB ps (t / 3) hd (t % 3) (by omega)
  have e2 : t / 3 * 3 + t % 3 = t := by omega
  rw [e2] at e
  have hl : t < (rowC blkC ps).length := by rw [rowC_len wideB]; exact ht
  have hc := h.cell t hl
  refine ⟨?_, ?_⟩
  · rw [Nat.zero_add, hc, Sort.get_flatK _ _ _ _ (by rw [List.size_toArray]; exact ht), bk_get ps _ hd]
    rw [List.getElem?_eq_getElem hl] at e
    have e3 : (blkC ps[t / 3])[t % 3]! = (rowC blkC ps)[t] := by
      rw [List.getElem!_eq_getElem?_getD, ← e]; rfl
    rw [e3]; rfl
  · rw [Nat.zero_add]
    have : n * 3 ≤ c * 3 := Nat.mul_le_mul_right _ hc1
    exact (h.live t (by omega)).2

theorem cel_of_holds {O : Nat → Prop} {w w' : World} {blk n c : Nat} {ps qs : List Blk} (h : Cel O w 3 (.slice (some ⟨blk, 0, none⟩) n c) n (rowC blkC ps) (some blk)) (hq : qs.length = n) (hH : Sort.HoldsK blkC 3 w' blk 0 qs.toArray) (hs : w.heap.size ≤ w'.heap.size)
    (hlive : ∀ j, j < c * 3 → (w'.cell? ⟨blk, j, none⟩).isSome = true ∧ w'.frozen? ⟨blk, j, none⟩ = false) : Cel O w' 3 (.slice (some ⟨blk, 0, none⟩) n c) n (rowC blkC qs) (some blk) := by
  obtain ⟨hc1, hc2, _⟩ := h.cap2
  obtain ⟨h3, h2⟩ := h.lt
  refine .row blk c rfl (by rw [rowC_len wideB, hq]) h2 (by omega) hc1 hc2 (fun t ht => ?_) hlive
  rw [rowC_len wideB] at ht
  have hd : t / 3 < qs.length := by omega
  have hc := (hH t (by rw [Sort.size_flatK, List.size_toArray]; exact ht)).1
  rw [Nat.zero_add, Sort.get_flatK _ _ _ _ (by rw [List.size_toArray]; exact ht), bk_get qs _ hd] at hc
  rw [hc]
  have e := rowC_at wideB qs (t / 3) hd (t % 3) (by omega)
  have e2 : t / 3 * 3 + t % 3 = t := by omega
  rw [e2] at e
  have hl : t < (rowC blkC qs).length := by rw [rowC_len wideB]; exact ht
  rw [List.getElem?_eq_getElem hl] at e
  have e3 : (blkC qs[t / 3])[t % 3]! = (rowC blkC qs)[t] := by
    rw [List.getElem!_eq_getElem?_getD, ← e]; rfl
  rw [e3]; rfl

theorem sorted_stay (w : World) (blk m : Nat) (d : Array Blk) (os : Array Obj) : Stay (fun k => some blk = some k) w (sortWorldK blkC 3 w blk 0 m d os) := by
  refine ⟨rfl, rfl, rfl, size_sortWorldK_c blkC 3 w blk 0 m d os, fun k hk hne => ?_⟩
  unfold sortWorldK
  have hb : k ≠ blk := fun e => hne (by rw [e])
  have h1 : k < (Sort.putRowK blkC 3 (Sort.ahead w m) blk 0 d).heap.size := by rw [Sort.size_putRowK]; exact hk
  rw [Sort.heap_grow_old _ _ h1]
  unfold Sort.putRowK Sort.putRow Sort.mapBlock
  simp only [Array.getElem?_modify]
  rw [if_neg (fun e => hb e.symm)]
  rfl

theorem sorted_live (w : World) (blk m j : Nat) (d0 d : Array Blk) (os : Array Obj) (hblk : blk < w.heap.size) (hH : Sort.HoldsK blkC 3 w blk 0 d0) (hs : d.size = d0.size) (h : (w.cell? ⟨blk, j, none⟩).isSome = true ∧ w.frozen? ⟨blk, j, none⟩ = false) :
    ((sortWorldK blkC 3 w blk 0 m d os).cell? ⟨blk, j, none⟩).isSome = true ∧ (sortWorldK blkC 3 w blk 0 m d os).frozen? ⟨blk, j, none⟩ = false := by
  have h1 : blk < (Sort.putRowK blkC 3 (Sort.ahead w m) blk 0 d).heap.size := by rw [Sort.size_putRowK]; exact hblk
  constructor
  · by_cases hj : j < d.size * 3
    · have := (holdsK_sortWorldK_c blkC 3 w blk 0 d0 d m os hH hblk hs j (by rw [Sort.size_flatK]; exact hj)).1
      rw [Nat.zero_add] at this
      rw [this]; rfl
    · unfold sortWorldK
      rw [Sort.cell?_grow _ _ _ h1]
      unfold Sort.putRowK
      rw [Sort.cell?_putRow_other _ _ _ _ _ _ (.inr (.inr (by rw [Sort.size_flatK]; show 0 + d.size * 3 ≤ j; omega)))]
      exact h.1
  · unfold sortWorldK
    rw [Sort.frozen?_grow _ _ _ h1]
    unfold Sort.putRowK
    rw [Sort.frozen?_putRow]
    exact h.2

theorem perm_of_in {d d' : Array Blk} (h : Sort.PermIn 0 d.size d d') : d'.toList.Perm d.toList := by
  obtain ⟨h1, _, h3⟩ := h
  have e1 : d'.extract 0 d.size = d' := by rw [← h1]; simp
  have e2 : d.extract 0 d.size = d := by simp
  rw [e1, e2] at h3
  exact h3

theorem sorted_of_in {d' : Array Blk} {n : Nat} (hn : d'.size = n) (h : Sort.SortedIn (ltOf cmpB) 0 n d') : d'.toList.Pairwise (fun x y => x.id ≤ y.id) := by
  rw [List.pairwise_iff_getElem]
  intro i j hi hj hij
  rw [Array.length_toList] at hi hj
  have := h i j (Nat.zero_le _) hij (by omega)
  rw [ltOf_cmp] at this
  have e1 : d'[i]! = d'[i] := by simp [hi]
  have e2 : d'[j]! = d'[j] := by simp [hj]
  rw [e1, e2] at this
  simpa using this


/-- Blocks of the call's own, sorted. -/
structure Sorted (base : Nat) (bs : List Blk) (a : Option Addr) (m c : Nat) (ys : List Blk) (w' : World) : Prop where
  len : ys.length = m
  perm : ys.Perm bs
  up : ys.Pairwise (fun x y => x.id ≤ y.id)
  cel : ∃ g, Cel (fun k => base ≤ k) w' 3 (.slice a m c) m (rowC blkC ys) g

set_option maxRecDepth 100000 in
set_option maxHeartbeats 1000000 in
theorem sort_val {base m c : Nat} {a : Option Addr} {bs : List Blk} {w : World} {g : Option Nat} (h : Cel (fun k => base ≤ k) w 3 (.slice a m c) m (rowC blkC bs) g) (hl : bs.length = m) (hB : base ≤ w.heap.size) (hp : 0 < m) (hm : m ≤ 1000) :
    Calls Tryz.prog 121 #[.slice a m c, .func (.func 122) #[] #[]] w fun e w' => e = .returned (.tuple #[]) ∧ (∃ ys, Sorted base bs a m c ys w') ∧ Below base w w' := by
  obtain ⟨blk, rfl, rfl⟩ := h.at2 hp
  have hlt := h.lt.1
  have hH := holds_of_cel h hl
  have eg : ∀ args w, (callFunc 122 args).run Tryz.prog w = .ok (.enter 122 args) w := enters_of Tryz.func122 (by kernel_rfl) rfl
  have hcmp : CmpLays Tryz.prog 122 #[] blkC 3 cmpB blk 0 bs.toArray.size w := fun _ _ _ _ x y => gath1_val x y _
  have hcon := AnyQ.slices_SortFunc sortBk 3 Tryz.isAgg31 Tryz.sizeOf31 blkC (fun _ => rfl) (fun x v hv => wideB.one x v hv) cmpB swoB 122 #[] blk 0 c bs.toArray w eg hcmp hH hlt (by rw [List.size_toArray]; omega)
  rw [List.size_toArray, hl] at hcon
  change Calls Tryz.prog 121 _ _ _ at hcon
  refine hcon.mono fun e w' ⟨he, d', q, os, hP, hS, hw⟩ => ?_
  have hsA : bs.toArray.size = m := by simp [hl]
  have hsz : d'.size = m := by
    have := hP.1
    omega
  have hperm : d'.toList.Perm bs := perm_of_in (by rw [List.size_toArray, hl]; exact hP)
  have hst : Stay (fun k => some blk = some k) w w' := by rw [hw]; exact sorted_stay w blk q d' os
  have hdl : d'.toList.length = m := by rw [Array.length_toList]; exact hsz
  have hH' : Sort.HoldsK blkC 3 w' blk 0 d'.toList.toArray := by
    rw [hw]
    exact holdsK_sortWorldK_c blkC 3 w blk 0 bs.toArray d'.toList.toArray q os hH hlt (by rw [List.size_toArray, List.size_toArray]; omega)
  have hcel := cel_of_holds h hdl hH' hst.size (fun j hj => by
    rw [hw]
    exact sorted_live w blk q j bs.toArray d' os hlt hH (by omega) (h.live j hj))
  exact ⟨he, ⟨d'.toList, hdl, hperm, sorted_of_in hsz hS, _, hcel⟩, hst.below hB (fun k hk => by cases hk; exact h.lt.2)⟩

theorem sort_none {a : Option Addr} {c : Nat} {w : World} : Calls Tryz.prog 121 #[.slice a 0 c, .func (.func 122) #[] #[]] w fun e w' => e = .returned (.tuple #[]) ∧ w' = w :=
  AnyF.slices_SortFunc_none sortBk a c _ w

theorem sort_any {base m c : Nat} {a : Option Addr} {bs : List Blk} {w : World} {g : Option Nat} (h : Cel (fun k => base ≤ k) w 3 (.slice a m c) m (rowC blkC bs) g) (hl : bs.length = m) (hB : base ≤ w.heap.size) (hm : m ≤ 1000) :
    Calls Tryz.prog 121 #[.slice a m c, .func (.func 122) #[] #[]] w fun e w' => e = .returned (.tuple #[]) ∧ (∃ ys, Sorted base bs a m c ys w') ∧ Below base w w' := by
  by_cases hp : 0 < m
  · exact sort_val h hl hB hp hm
  · obtain rfl : m = 0 := by omega
    have e : bs = [] := List.length_eq_zero_iff.1 hl
    subst e
    refine sort_none.mono fun e w' ⟨h1, h2⟩ => ?_
    subst h2
    exact ⟨h1, ⟨[], rfl, List.Perm.refl _, List.Pairwise.nil, g, h⟩, Below.refl _ _⟩

theorem blks_few {xs : NS} (h8 : ∀ x ∈ xs, x.bs.length ≤ 8) : (blksL xs).length ≤ xs.length * 8 := by
  induction xs with
  | nil => simp [blksL]
  | cons x xs ih =>
    have h1 := h8 x (by simp)
    have h2 := ih (fun y hy => h8 y (List.mem_cons_of_mem _ hy))
    have e : blksL (x :: xs) = x.bs ++ blksL xs := rfl
    rw [e, List.length_append, List.length_cons]
    omega
theorem blks_take {xs : NS} {i : Nat} (hi : i < xs.length) : blksL (xs.take (i + 1)) = blksL (xs.take i) ++ xs[i].bs := by
  rw [List.take_succ_eq_append_getElem hi, blks_app, blks_one]
theorem blks_sub {xs : NS} (i : Nat) : (blksL (xs.take i)).length ≤ (blksL xs).length := (sub_blks (List.take_sublist i xs)).length_le

structure GathR (base : Nat) (xs : NS) (e : Ending) (w' : World) : Prop where
  ex : ∃ a m c ys, e = .returned (.slice a m c) ∧ Sorted base (blksL xs) a m c ys w'

set_option maxRecDepth 100000 in
set_option maxHeartbeats 2000000 in
theorem gathered_val {a : Option Addr} {n c : Nat} {xs : NS} {w : World} (h : NL w a n xs) (hR : Right xs) :
    Calls Tryz.prog 79 #[.slice a n c] w fun e w' => GathR w.heap.size xs e w' ∧ Below w.heap.size w w' := by
  obtain ⟨ti, hi1, hi2, hi3, hi4⟩ := blkRow
  obtain ⟨b, off, ps, k1, k2, k3⟩ := h.ex
  have HK : Hid (Nds w a b off ps) := k3
  have HP : Hid (ps.length = n) := by show ps.length = n; rw [← k2, ← k1, List.length_map]
  have HM : Hid (ps.map (·.1) = xs) := k1
  have hn60 : n ≤ 60 := by rw [← k2]; exact hR.few
  have HF : Hid ((blksL xs).length ≤ 480) := by
    have := blks_few hR.few8
    have := hR.few
    show _ ≤ 480
    omega
  clear h k1 k2 k3 hR
  go_enter Tryz.func79, Tryz.ntmps79
  go_wp2
  go_loopw [3, 5, 8] (fun v3 _ v8 wr => ∃ (i : Nat) (fa : Option Addr) (fn fc : Nat) (g : Option Nat), i ≤ n ∧ v8 = .int .i64 i ∧ v3 = .slice fa fn fc ∧ Cel (fun k => w.heap.size ≤ k) wr 3 (.slice fa fn fc) fn (rowC blkC (blksL (xs.take i))) g ∧ (blksL (xs.take i)).length = fn ∧ Below w.heap.size w wr) (fun _ _ v8 _ => n - (intOf v8).toNat)
  case atStart => exact ⟨0, none, 0, 0, none, by omega, rfl, rfl, .nil rfl rfl rfl, rfl, Below.refl _ _⟩
  case round =>
    obtain ⟨i, fa, fn, fc, g, hi, rfl, rfl, hL, hq, hb⟩ := hrel
    have HB : Hid (Below w.heap.size w wr) := hb
    have HL : Hid (Cel (fun k => w.heap.size ≤ k) wr 3 (.slice fa fn fc) fn (rowC blkC (blksL (xs.take i))) g) := hL
    have HQ : Hid ((blksL (xs.take i)).length = fn) := hq
    have hfn : fn ≤ 480 := by have := HF.out; have := blks_sub (xs := xs) i; omega
    by_cases hlt : i < n
    · have hip : i < ps.length := by rw [HP.out]; exact hlt
      have hix : i < xs.length := by rw [← HM.out, List.length_map]; exact hip
      have hK := HK.out.below hb
      obtain ⟨e0, e1, e2, e3, e4⟩ := hK.at hip
      obtain rfl := hK.addr (by omega)
      have hok := hK.ok _ (List.getElem_mem hip)
      have exi : ps[i].1 = xs[i] := by
        have := HM.out
        subst this
        simp
      have hBT := blks_take hix
      rw [← exi] at hBT
      have HBT : Hid _ := hBT
      have hsn : ps[i].2.n ≤ 480 := by
        have h1 := HF.out
        have h2 := blks_sub (xs := xs) (i + 1)
        rw [hBT, List.length_append, hok.bs.len] at h2
        omega
      have HS : Hid (∀ o, Src Tryz.prog 3 33 (.slice ps[i].2.a ps[i].2.n ps[i].2.c) ps[i].2.n (rowC blkC ps[i].1.bs) (wr.alloc o)) := fun o => (hok.bs.below (bel_al wr o)).src (fun e => by
        rcases Nat.eq_zero_or_pos ps[i].2.n with h0 | h0
        · exact h0
        · obtain ⟨b, off, ha, _⟩ := hok.bs.cells h0
          rw [e] at ha; cases ha)
      have HSL : Hid (ps[i].1.bs.length = ps[i].2.n) := hok.bs.len
      clear hb hL hq hok exi hBT hix hK
      generalize ps[i] = x at *
      obtain ⟨⟨p, d, q, bs, wb⟩, ⟨sa, sn, sc⟩⟩ := x
      simp only at e0 e1 e2 e3 e4 HBT HS HSL hsn
      have hst := run_store_str
      have hst2 : ∀ (w : World) (a : Addr) (x : Option Addr) (n c : Nat) (m : Mode), (store a (.slice x n c) m).run Tryz.prog w = stored Tryz.prog w a (.slice x n c) m := fun w a x n c m => run_store_any w a _ m rfl
      have HAP : Hid (∀ o a2 c2 w4 g4, Cel (Grow (fun k => w.heap.size ≤ k) (wr.alloc o) w4) w4 3 (.slice a2 (fn + sn) c2) (fn + sn) (rowC blkC (blksL (xs.take i)) ++ rowC blkC bs) g4 → Stay (fun k => g = some k) (wr.alloc o) w4 → Cel (fun k => w.heap.size ≤ k) w4 3 (.slice a2 (fn + sn) c2) (fn + sn) (rowC blkC (blksL (xs.take (i + 1)))) g4 ∧ Below w.heap.size w w4) := fun o a2 c2 w4 g4 hC hS => by
        have z0 := HB.out.size
        rw [HBT.out, rowC_app]
        refine ⟨grow_base (by simp; omega) (fun k hk => hk) hC, (HB.out.trans ((bel_al wr o).mono (by omega))).trans (hS.below (by simp; omega) (fun k hk => ?_))⟩
        have := HL.out; rw [hk] at this; exact this.lt.2
      go_wp2_with (at_builtin; refine wpList_append_cel _ rfl _ _ 33 33 rfl 31 ti _ 3 24 Tryz.underlying33 hi1 hi2 hi3 hi4 rfl (O := fun k => w.heap.size ≤ k) _ fn _ g rfl (HL.out.below (bel_al _ _)) _ sn (rowC blkC bs) rfl (HS.out _) (by unfold maxLen; omega) (by omega) ?_; intro a5 c5 w5 g5 hC5 hS5 hf5; have HX : Hid _ := HAP.out _ a5 c5 w5 g5 hC5 hS5; clear hC5 hS5 hf5)
      go_roundw
      case rel => exact ⟨i + 1, a5, fn + sn, c5, g5, by omega, by go_num, rfl, HX.out.1, by rw [HBT.out, List.length_append, HQ.out, HSL.out], HX.out.2⟩
      case measure => simp [intOf]; omega
    · obtain rfl : i = n := by omega
      have hgd : decide ((i : Int) < (i : Int)) = false := decide_eq_false (by omega)
      have hall : xs.take i = xs := List.take_of_length_le (by rw [← HM.out, List.length_map, HP.out]; omega)
      rw [hall] at hL hq
      have CS : Hid (Calls Tryz.prog 121 #[.slice fa fn fc, .func (.func 122) #[] #[]] wr fun e w' => e = .returned (.tuple #[]) ∧ (∃ ys, Sorted w.heap.size (blksL xs) fa fn fc ys w') ∧ Below w.heap.size wr w') := sort_any hL hq hb.size (by omega)
      clear hb hL hq hlt hall
      go_wp2_with (refine CS.out.mono ?_; rintro e w5 ⟨rfl, hS5, c5⟩; have HS5 : Hid _ := hS5; have B5 : Hid (Below w.heap.size w w5) := HB.out.trans c5; clear hS5 c5)
      go_ret
      obtain ⟨ys, hS⟩ := HS5.out
      exact ⟨⟨fa, fn, fc, ys, rfl, hS⟩, B5.out⟩

end Go.Proofs.YticiihjkgiookaaGreat.Spa

/- The contracts of space.blocksFit, allLeased. -/
namespace Go.Proofs.YticiihjkgiookaaGreat.Spa
open Go.RowKit Go.Proofs.YticiihjkgiookaaGreat
open Go.Proofs.YticiihjkgiookaaGreat.Lea (LS Ls findX putL renX LL LO LsR)

def spV (s : Sp) (N L : RS) : Value := .agg #[.int .i64 s.tx, .int .i64 s.nb, .int .i64 s.ng, .int .i64 s.now, .slice N.a N.n N.c, .slice L.a L.n L.c]
/-- A space that is handed on. -/
structure SpIn (w : World) (s : Sp) (N L : RS) : Prop where
  nl : NL w N.a N.n s.ns
  ll : LL w L.a L.n L.c s.ls
  nil : N.a = none → N.c = 0
theorem SpIn.below {w w' : World} {s : Sp} {N L : RS} (h : SpIn w s N L) (hb : Below w.heap.size w w') : SpIn w' s N L := ⟨h.nl.below hb, h.ll.below hb, h.nil⟩

/-- The blocks are all unlike, and older than what comes next. -/
def BksOk (s : Sp) : Prop := (blksL s.ns).Pairwise (fun a b => a.id ≠ b.id) ∧ ∀ b ∈ blksL s.ns, b.id < s.nb ∧ b.gen < s.ng

theorem Sorted.mono {b1 b2 : Nat} {bs : List Blk} {a : Option Addr} {m c : Nat} {ys : List Blk} {w : World} (h : Sorted b1 bs a m c ys w) (hb : b2 ≤ b1) : Sorted b2 bs a m c ys w := by
  obtain ⟨g, hc⟩ := h.cel
  exact ⟨h.len, h.perm, h.up, g, hc.stay (Nat.le_refl _) (fun _ _ => rfl) (fun _ e => Nat.le_trans hb e)⟩
theorem Sorted.at {base : Nat} {bs : List Blk} {a : Option Addr} {m c : Nat} {ys : List Blk} {w w' : World} (h : Sorted base bs a m c ys w) (hb : Below w.heap.size w w') (hp : 0 < m) : ∃ b, a = some ⟨b, 0, none⟩ ∧ ∀ j (hj : j < ys.length), w'.cell? ⟨b, j * 3, none⟩ = some (.int .i64 ys[j].id) ∧ w'.cell? ⟨b, j * 3 + 1, none⟩ = some (.int .i64 ys[j].gen) ∧ w'.cell? ⟨b, j * 3 + 2, none⟩ = some (.int .i64 ys[j].len) := by
  obtain ⟨g, hc⟩ := h.cel
  have hl := h.len
  obtain ⟨b, rfl, rfl⟩ := hc.at2 hp
  refine ⟨b, rfl, fun j hj => ?_⟩
  obtain ⟨b', e1, e2, e3⟩ := (hc.below hb).elem wideB hj hl
  cases e1
  exact ⟨e3 0 _ rfl, e3 1 _ rfl, e3 2 _ rfl⟩

structure UpTo (nb ng : Int) (ys : List Blk) (i : Nat) : Prop where
  lo : ∀ j (hj : j < ys.length), j < i → ys[j].id < nb ∧ ys[j].gen < ng
  up : ∀ j (hj : j + 1 < ys.length), j + 1 < i → ys[j].id ≠ ys[j + 1].id

theorem up_all {ys : List Blk} (h : ys.Pairwise (fun x y => x.id ≤ y.id)) (hu : ∀ j (hj : j + 1 < ys.length), ys[j].id ≠ ys[j + 1].id) : ys.Pairwise (fun x y => x.id ≠ y.id) := by
  rw [List.pairwise_iff_getElem] at *
  intro i j hi hj hij
  have h1 := h i (i + 1) hi (by omega) (by omega)
  have h2 := hu i (by omega)
  by_cases e : i + 1 = j
  · subst e; exact h2
  · have := h (i + 1) j (by omega) hj (by omega)
    omega

set_option maxRecDepth 100000 in
set_option maxHeartbeats 4000000 in
theorem blocksFit_val {s : Sp} {N L : RS} {w : World} (h : NL w N.a N.n s.ns) (hR : Right s.ns) (v : Bool) (hv : v = true ↔ BksOk s) :
    Calls Tryz.prog 35 #[spV s N L] w fun e w' => e = .returned (.bool v) ∧ Below w.heap.size w w' := by
  have CG : Hid (∀ o, Calls Tryz.prog 79 #[.slice N.a N.n N.c] (w.alloc o) fun e w' => GathR (w.alloc o).heap.size s.ns e w' ∧ Below (w.alloc o).heap.size (w.alloc o) w') := fun o => gathered_val (h.below (bel_al _ _)) hR
  have HV : Hid (v = true ↔ BksOk s) := hv
  have HF : Hid ((blksL s.ns).length ≤ 480) := by
    have := blks_few hR.few8
    have := hR.few
    show _ ≤ 480
    omega
  clear h hR hv
  obtain ⟨tx, nb, ng, now, ns, ls⟩ := s
  obtain ⟨na, nn, nc⟩ := N
  obtain ⟨la, ln, lc⟩ := L
  unfold spV
  simp only at CG HF ⊢
  have hst := run_store_str
  go_enter Tryz.func35, Tryz.ntmps35
  go_wp2_with (go_at_call 79; refine (CG.out _).mono ?_; rintro e w1 ⟨⟨fa, m, fc, ys, rfl, hS⟩, c1⟩)
  have HS : Hid (Sorted w.heap.size (blksL ns) fa m fc ys w1) := hS.mono (by simp)
  have y1 := bel_cell c1 (World.cell?_alloc_new w _ _ 1)
  have y2 := bel_cell c1 (World.cell?_alloc_new w _ _ 2)
  have Y1 : Hid (w1.cell? ⟨w.heap.size, 1, none⟩ = some (.int .i64 nb)) := y1
  have Y2 : Hid (w1.cell? ⟨w.heap.size, 2, none⟩ = some (.int .i64 ng)) := y2
  have B1 : Hid (Below w.heap.size w w1) := bel_tr (bel_al _ _) c1
  have hm : m ≤ 480 := by rw [← hS.len, hS.perm.length_eq]; exact HF.out
  clear hS c1 y1 y2
  go_loopw [5, 11] (fun _ v11 wr => ∃ i : Nat, i ≤ m ∧ v11 = .int .i64 i ∧ Below w1.heap.size w1 wr ∧ UpTo nb ng ys i) (fun _ v11 _ => m - (intOf v11).toNat)
  case atStart => exact ⟨0, by omega, rfl, Below.refl _ _, fun j hj h => by omega, fun j hj h => by omega⟩
  case round =>
    obtain ⟨i, hi, rfl, hb, hU⟩ := hrel
    have HB : Hid (Below w1.heap.size w1 wr) := hb
    have HU : Hid (UpTo nb ng ys i) := hU
    by_cases hlt : i < m
    · have hiy : i < ys.length := by rw [HS.out.len]; exact hlt
      obtain ⟨b, rfl, hat⟩ := HS.out.at hb (by omega)
      obtain ⟨e0, e1, e2⟩ := hat i hiy
      have y1 := bel_cell hb Y1.out
      have y2 := bel_cell hb Y2.out
      have q1 := cell_al y1
      have q2 := cell_al y2
      have HLO : Hid (¬ (ys[i].id < nb ∧ ys[i].gen < ng) → v = false) := fun hn => by
        rw [Bool.eq_false_iff]; intro e
        exact hn ((HV.out.1 e).2 _ (HS.out.perm.subset (List.getElem_mem hiy)))
      have HNX : Hid ((ys[i].id < nb ∧ ys[i].gen < ng) → (∀ j (hj : j < ys.length), j + 1 = i → ys[j].id ≠ ys[i].id) → UpTo nb ng ys (i + 1)) := fun h1 h2 => by
        refine ⟨fun j hj hji => ?_, fun j hj hji => ?_⟩
        · by_cases e : j = i
          · subst e; exact h1
          · exact hU.lo j hj (by omega)
        · by_cases e : j + 1 = i
          · subst e; exact h2 j (by omega) rfl
          · exact hU.up j hj (by omega)
      have HEQ : Hid (∀ j (hj : j < ys.length), j + 1 = i → ys[j].id = ys[i].id → v = false) := fun j hj e he => by
        rw [Bool.eq_false_iff]; intro e2
        have := pair_perm HS.out.perm.symm (HV.out.1 e2).1
        rw [List.pairwise_iff_getElem] at this
        exact this j i hj hiy (by omega) he
      cases c1 : decide (nb ≤ ys[i].id) with
      | true =>
        obtain rfl := HLO.out (by rw [decide_eq_true_eq] at c1; omega)
        clear HLO HNX HEQ hat hb hU y1 y2
        generalize ys[i].id = bi at *
        generalize ys[i].gen = bg at *
        generalize ys[i].len = bl at *
        go_wp2
        go_quiet (fail)
        go_wp2
        go_ret
        exact ⟨rfl, bel_tr B1.out (bel_tr HB.out (bel_tr (bel_al _ _) (bel_drewN _ _)))⟩
      | false =>
        cases c2 : decide (ng ≤ ys[i].gen) with
        | true =>
          obtain rfl := HLO.out (by rw [decide_eq_true_eq] at c2; omega)
          clear HLO HNX HEQ hat hb hU y1 y2
          generalize ys[i].id = bi at *
          generalize ys[i].gen = bg at *
          generalize ys[i].len = bl at *
          go_wp2
          go_quiet (fail)
          go_wp2
          go_ret
          exact ⟨rfl, bel_tr B1.out (bel_tr HB.out (bel_tr (bel_al _ _) (bel_drewN _ _)))⟩
        | false =>
          have hlo : ys[i].id < nb ∧ ys[i].gen < ng := by
            rw [decide_eq_false_iff_not] at c1 c2
            omega
          by_cases h0 : i = 0
          · have HX : Hid (UpTo nb ng ys (i + 1)) := HNX.out hlo (fun j hj e => by omega)
            clear HLO HNX HEQ hat hb hU y1 y2 hlo
            generalize ys[i].id = bi at *
            generalize ys[i].gen = bg at *
            generalize ys[i].len = bl at *
            have h0i : decide (0 < i) = false := decide_eq_false (by omega)
            have h0j : decide ((0 : Int) < (i : Int)) = false := decide_eq_false (by omega)
            clear h0 hiy
            go_wp2
            go_quiet (fail)
            go_wp2
            go_roundw
            case rel => exact ⟨i + 1, by omega, by go_num, bel_tr HB.out (bel_tr (bel_al _ _) (bel_drewN _ _)), HX.out⟩
            case measure => simp [intOf]; omega
          · obtain ⟨k, hk⟩ : ∃ k, i = k + 1 := ⟨i - 1, by omega⟩
            have hky : k < ys.length := by omega
            obtain ⟨f0, f1, f2⟩ := hat k hky
            have p0 := cell_al f0
            have h0i : decide (0 < i) = true := decide_eq_true (by omega)
            have h0j : decide ((0 : Int) < (i : Int)) = true := decide_eq_true (by omega)
            have hik : (i : Int) - 1 = (k : Int) := by omega
            have hkm : k < m := by omega
            cases c3 : (ys[k].id == ys[i].id) with
            | true =>
              obtain rfl := HEQ.out k hky hk.symm (by simpa using c3)
              clear HLO HNX HEQ hat hb hU y1 y2 hlo h0 f0 f1 f2
              generalize ys[i].id = bi at *
              generalize ys[i].gen = bg at *
              generalize ys[i].len = bl at *
              generalize ys[k].id = ki at *
              clear hk hky hiy
              go_wp2
              go_quiet (fail)
              go_wp2
              go_ret
              exact ⟨rfl, bel_tr B1.out (bel_tr HB.out (bel_tr (bel_al _ _) (bel_drewN _ _)))⟩
            | false =>
              have HX : Hid (UpTo nb ng ys (i + 1)) := HNX.out hlo (fun j hj e => by
                obtain rfl : j = k := by omega
                simpa using c3)
              clear HLO HNX HEQ hat hb hU y1 y2 hlo h0 f0 f1 f2
              generalize ys[i].id = bi at *
              generalize ys[i].gen = bg at *
              generalize ys[i].len = bl at *
              generalize ys[k].id = ki at *
              have HK : Hid (i = k + 1) := hk
              clear hk hky hiy
              go_wp2
              go_quiet (fail)
              go_wp2
              go_roundw
              case rel => exact ⟨i + 1, by omega, by go_num, bel_tr HB.out (bel_tr (bel_al _ _) (bel_drewN _ _)), HX.out⟩
              case measure => simp [intOf]; omega
    · obtain rfl : i = m := by omega
      have hgd : decide ((i : Int) < (i : Int)) = false := decide_eq_false (by omega)
      have hv1 : v = true := HV.out.2 ⟨pair_perm HS.out.perm (up_all HS.out.up (fun j hj => hU.up j hj (by have := HS.out.len; omega))), fun b hb => by
        obtain ⟨j, hj, rfl⟩ := List.getElem_of_mem (HS.out.perm.symm.subset hb)
        exact hU.lo j hj (by have := HS.out.len; omega)⟩
      subst hv1
      clear hb hU hlt
      go_wp2
      go_ret
      exact ⟨rfl, bel_tr B1.out HB.out⟩

end Go.Proofs.YticiihjkgiookaaGreat.Spa

/- The contracts of space.allLeased, Right. -/
namespace Go.Proofs.YticiihjkgiookaaGreat.Spa
open Go.RowKit Go.Proofs.YticiihjkgiookaaGreat
open Go.Proofs.YticiihjkgiookaaGreat.Lea (LS Ls findX putL renX LL LO LsR)

def Leased (s : Sp) : Prop := ∀ x ∈ s.ns, x.wr ≠ -1 → (Lea.untilX s.ls x.wr).2 = true

set_option maxRecDepth 100000 in
set_option maxHeartbeats 2000000 in
theorem allLeased_val {s : Sp} {N L : RS} {w : World} (h : SpIn w s N L) (v : Bool) (hv : v = true ↔ Leased s) :
    Calls Tryz.prog 37 #[spV s N L] w fun e w' => e = .returned (.bool v) ∧ Below w.heap.size w w' := by
  obtain ⟨b, off, ps, k1, k2, k3⟩ := h.nl.ex
  have HK : Hid (Nds w N.a b off ps) := k3
  have HP : Hid (ps.length = N.n) := by show ps.length = N.n; rw [← k2, ← k1, List.length_map]
  have HM : Hid (ps.map (·.1) = s.ns) := k1
  have HV : Hid (v = true ↔ Leased s) := hv
  have HLL : Hid (LL w L.a L.n L.c s.ls) := h.ll
  have hlid := h.nl.lid
  unfold maxLen at hlid
  have CU : Hid (∀ W k u b, Below w.heap.size w W → Lea.untilX s.ls k = (u, b) → Calls Tryz.prog 82 #[.slice L.a L.n L.c, .int .i64 k] W fun e w' => e = .returned (.tuple #[.int .i64 u, .bool b]) ∧ Below W.heap.size W w') := fun W k u b hb hu => Lea.until_val (HLL.out.below hb) k u b hu
  clear h k1 k2 k3 hv
  obtain ⟨tx, nb, ng, now, ns, ls⟩ := s
  obtain ⟨na, nn, nc⟩ := N
  obtain ⟨la, ln, lc⟩ := L
  unfold spV
  simp only at CU HK HP HM hlid ⊢
  have hst := run_store_str
  have hst2 : ∀ (w : World) (a : Addr) (x : Option Addr) (n c : Nat) (m : Mode), (store a (.slice x n c) m).run Tryz.prog w = stored Tryz.prog w a (.slice x n c) m := fun w a x n c m => run_store_any w a _ m rfl
  have Y5 : Hid (∀ t, (w.alloc (.cells #[.int .i64 tx, .int .i64 nb, .int .i64 ng, .int .i64 now, .slice na nn nc, .slice la ln lc] t)).cell? ⟨w.heap.size, 5, none⟩ = some (.slice la ln lc)) := fun t => World.cell?_alloc_new w _ _ 5
  go_enter Tryz.func37, Tryz.ntmps37
  go_wp2
  have y5 := Y5.out 27
  have B0 : Hid (Below w.heap.size w (w.alloc (.cells #[.int .i64 tx, .int .i64 nb, .int .i64 ng, .int .i64 now, .slice na nn nc, .slice la ln lc] 27))) := bel_al _ _
  generalize (w.alloc (.cells #[.int .i64 tx, .int .i64 nb, .int .i64 ng, .int .i64 now, .slice na nn nc, .slice la ln lc] 27)) = W0 at *
  have H5 : Hid (W0.cell? ⟨w.heap.size, 5, none⟩ = some (.slice la ln lc)) := y5
  clear y5 Y5
  go_loopw [4, 5, 6, 10] (fun _ _ _ v10 wr => ∃ i : Nat, i ≤ nn ∧ v10 = .int .i64 i ∧ Below W0.heap.size W0 wr ∧ ∀ x ∈ ns.take i, x.wr ≠ -1 → (Lea.untilX ls x.wr).2 = true) (fun _ _ _ v10 _ => nn - (intOf v10).toNat)
  case atStart => exact ⟨0, by omega, rfl, Below.refl _ _, fun x hx => (by simp at hx)⟩
  case round =>
    obtain ⟨i, hi, rfl, hb, hU⟩ := hrel
    have HB : Hid (Below W0.heap.size W0 wr) := hb
    have BW : Hid (Below w.heap.size w wr) := bel_tr B0.out hb
    have HU : Hid (∀ x ∈ ns.take i, x.wr ≠ -1 → (Lea.untilX ls x.wr).2 = true) := hU
    by_cases hlt : i < nn
    · have hip : i < ps.length := by rw [HP.out]; exact hlt
      have hix : i < ns.length := by rw [← HM.out, List.length_map]; exact hip
      have hK := HK.out.below BW.out
      obtain ⟨e0, e1, e2, e3, e4⟩ := hK.at hip
      obtain rfl := hK.addr (by omega)
      have exi : ps[i].1 = ns[i] := by
        have := HM.out
        subst this
        simp
      have HNX : Hid ((ps[i].1.wr ≠ -1 → (Lea.untilX ls ps[i].1.wr).2 = true) → ∀ x ∈ ns.take (i + 1), x.wr ≠ -1 → (Lea.untilX ls x.wr).2 = true) := fun h1 x hx => by
        rw [List.take_succ_eq_append_getElem hix] at hx
        rcases List.mem_append.1 hx with hx | hx
        · exact hU x hx
        · rw [List.mem_singleton.1 hx, ← exi]; exact h1
      have HNO : Hid (ps[i].1.wr ≠ -1 → (Lea.untilX ls ps[i].1.wr).2 = false → v = false) := fun h1 h2 => by
        rw [Bool.eq_false_iff]; intro e
        have := HV.out.1 e ns[i] (List.getElem_mem hix)
        rw [← exi] at this
        have := this h1
        rw [h2] at this; cases this
      have y5 := bel_cell hb H5.out
      have z5 := cell_al y5
      clear hb hU hK exi hix y5
      generalize ps[i] = x at *
      obtain ⟨⟨p, d, q, bs, wb⟩, ⟨sa, sn, sc⟩⟩ := x
      simp only at e0 e1 e2 e3 e4 HNX HNO
      obtain ⟨⟨u, b2⟩, hu⟩ : ∃ y, Lea.untilX ls wb = y := ⟨_, rfl⟩
      have HUN : Hid (Lea.untilX ls wb = (u, b2)) := hu
      rw [hu] at HNX HNO
      simp only at HNX HNO
      clear hu
      cases b2 with
      | true =>
        have HX : Hid _ := HNX.out (fun _ => rfl)
        clear HNX HNO
        go_wp2_with (go_at_call 82; refine (CU.out _ _ _ _ (bel_tr BW.out (bel_al _ _)) HUN.out).mono ?_; rintro e w1 ⟨rfl, c1⟩; have B1 : Hid (Below wr.heap.size wr w1) := bel_tr (bel_al _ _) c1; clear c1)
        go_roundw
        case rel => exact ⟨i + 1, by omega, by go_num, bel_tr HB.out B1.out, HX.out⟩
        case measure => simp [intOf]; omega
      | false =>
        cases hw : (wb != -1) with
        | true =>
          obtain rfl := HNO.out (by simpa using hw) rfl
          clear HNX HNO
          go_wp2_with (go_at_call 82; refine (CU.out _ _ _ _ (bel_tr BW.out (bel_al _ _)) HUN.out).mono ?_; rintro e w1 ⟨rfl, c1⟩; have B1 : Hid (Below wr.heap.size wr w1) := bel_tr (bel_al _ _) c1; have x4 := bel_cell c1 (World.cell?_alloc_new wr _ _ 4); clear c1)
          go_ret
          exact ⟨rfl, bel_tr BW.out B1.out⟩
        | false =>
          have HX : Hid _ := HNX.out (fun e => absurd (by simpa using hw) e)
          clear HNX HNO
          go_wp2_with (go_at_call 82; refine (CU.out _ _ _ _ (bel_tr BW.out (bel_al _ _)) HUN.out).mono ?_; rintro e w1 ⟨rfl, c1⟩; have B1 : Hid (Below wr.heap.size wr w1) := bel_tr (bel_al _ _) c1; have x4 := bel_cell c1 (World.cell?_alloc_new wr _ _ 4); clear c1)
          go_roundw
          case rel => exact ⟨i + 1, by omega, by go_num, bel_tr HB.out B1.out, HX.out⟩
          case measure => simp [intOf]; omega
    · obtain rfl : i = nn := by omega
      have hgd : decide ((i : Int) < (i : Int)) = false := decide_eq_false (by omega)
      have hv1 : v = true := HV.out.2 (by
        rw [List.take_of_length_le (by rw [← HM.out, List.length_map, HP.out]; omega)] at hU
        exact hU)
      subst hv1
      clear hb hU hlt
      go_wp2
      go_ret
      exact ⟨rfl, BW.out⟩

theorem rts_iff {s : Sp} : RtS s ↔ (0 ≤ s.tx ∧ s.tx ≤ 300) ∧ (1 ≤ s.nb ∧ s.nb ≤ 9007199254740991) ∧ (1 ≤ s.ng ∧ s.ng ≤ 9007199254740991) ∧ (0 ≤ s.now ∧ s.now ≤ 9007199254740981) ∧ Right s.ns ∧ overL s.ns = [] ∧ BksOk s ∧ Lea.Rt s.ls ∧ Leased s := by
  constructor
  · intro h
    exact ⟨h.tx, h.nb, h.ng, h.now, h.tree, h.over, ⟨h.ids, h.lo⟩, h.ls, fun x hx hw => by rw [Lea.untilX_yes h.ls]; exact h.wr x hx hw⟩
  · rintro ⟨h1, h2, h3, h4, h5, h6, h7, h8, h9⟩
    exact ⟨h1, h2, h3, h4, h5, h6, h7.1, h7.2, h8, fun x hx hw => by
      have := h9 x hx hw
      rwa [Lea.untilX_yes h8] at this⟩

set_option maxRecDepth 100000 in
set_option maxHeartbeats 4000000 in
theorem rightS_val {s : Sp} {N L : RS} {w : World} (h : SpIn w s N L) (u : Bool) (hu : u = true ↔ RtS s) :
    Calls Tryz.prog 19 #[spV s N L] w fun e w' => e = .returned (.bool u) ∧ Below w.heap.size w w' := by
  rw [rts_iff] at hu
  obtain ⟨tx, nb, ng, now, ns, ls⟩ := s
  obtain ⟨na, nn, nc⟩ := N
  obtain ⟨la, ln, lc⟩ := L
  have HN : Hid (NL w na nn ns) := h.nl
  have HS : Hid (SpIn w ⟨tx, nb, ng, now, ns, ls⟩ ⟨na, nn, nc⟩ ⟨la, ln, lc⟩) := h
  have CR : Hid (∀ W v, Below w.heap.size w W → (v = true ↔ Right ns) → Calls Tryz.prog 33 #[.slice na nn nc] W fun e w' => e = .returned (.bool v) ∧ Below W.heap.size W w') := fun W v hb hv => right_val (HN.out.below hb) v hv
  have CO : Hid (∀ W ys m, Below w.heap.size w W → Right ns → overL ns = ys → ys.length = m → Calls Tryz.prog 34 #[.slice na nn nc] W fun e w' => (∃ a c, e = .returned (.slice a m c)) ∧ Below W.heap.size W w') := fun W ys m hb hR hy hm => (over_val (HN.out.below hb) true ⟨fun _ => hR, fun _ => rfl⟩ ys hy m hm).mono fun e w' ⟨h1, h2⟩ => ⟨by obtain ⟨a, b, c, k, _⟩ := h1.ex; exact ⟨_, _, k⟩, h2⟩
  have CB : Hid (∀ W v, Below w.heap.size w W → Right ns → (v = true ↔ BksOk ⟨tx, nb, ng, now, ns, ls⟩) → Calls Tryz.prog 35 #[spV ⟨tx, nb, ng, now, ns, ls⟩ ⟨na, nn, nc⟩ ⟨la, ln, lc⟩] W fun e w' => e = .returned (.bool v) ∧ Below W.heap.size W w') := fun W v hb hR hv => blocksFit_val (s := ⟨tx, nb, ng, now, ns, ls⟩) (N := ⟨na, nn, nc⟩) (HN.out.below hb) hR v hv
  have CL : Hid (∀ W v, Below w.heap.size w W → (v = true ↔ Lea.Rt ls) → Calls Tryz.prog 36 #[.slice la ln lc] W fun e w' => e = .returned (.bool v) ∧ Below W.heap.size W w') := fun W v hb hv => Lea.right_val (HS.out.ll.below hb) v hv
  have CA : Hid (∀ W v, Below w.heap.size w W → (v = true ↔ Leased ⟨tx, nb, ng, now, ns, ls⟩) → Calls Tryz.prog 37 #[spV ⟨tx, nb, ng, now, ns, ls⟩ ⟨na, nn, nc⟩ ⟨la, ln, lc⟩] W fun e w' => e = .returned (.bool v) ∧ Below W.heap.size W w') := fun W v hb hv => allLeased_val (HS.out.below hb) v hv
  unfold spV at CB CA ⊢
  simp only at hu CB CA ⊢
  clear h HS HN
  cases c0 : Edi.inB 0 tx 300 with
  | false =>
    have hu0 : u = false := by
      rw [Bool.eq_false_iff]; intro e; have h := hu.1 e; rw [Edi.inB_yes (by omega) (by omega)] at c0; cases c0
    subst hu0
    have Htx : Hid _ := c0
    clear hu c0
    go_enter Tryz.func19, Tryz.ntmps19
    go_wp2_with (first
      | (go_at_call_of 32 (Value.int .i64 tx); refine (within_val _ _ _ false _ Htx.out).mono ?_; rintro e w1 ⟨rfl, rfl⟩))
    go_ret
    exact ⟨rfl, bel_al _ _⟩
  | true =>
    have Htx : Hid _ := c0
    have i0 := Edi.inB_iff.1 c0
    clear c0
    cases c1 : Edi.inB 1 nb 9007199254740991 with
    | false =>
      have hu0 : u = false := by
        rw [Bool.eq_false_iff]; intro e; have h := hu.1 e; rw [Edi.inB_yes (by omega) (by omega)] at c1; cases c1
      subst hu0
      have Hnb : Hid _ := c1
      clear hu c1
      go_enter Tryz.func19, Tryz.ntmps19
      go_wp2_with (first
        | (go_at_call_of 32 (Value.int .i64 tx); refine (within_val _ _ _ true _ Htx.out).mono ?_; rintro e w1 ⟨rfl, rfl⟩)
        | (go_at_call_of 32 (Value.int .i64 nb); refine (within_val _ _ _ false _ Hnb.out).mono ?_; rintro e w1 ⟨rfl, rfl⟩))
      go_ret
      exact ⟨rfl, bel_al _ _⟩
    | true =>
      have Hnb : Hid _ := c1
      have i1 := Edi.inB_iff.1 c1
      clear c1
      cases c2 : Edi.inB 1 ng 9007199254740991 with
      | false =>
        have hu0 : u = false := by
          rw [Bool.eq_false_iff]; intro e; have h := hu.1 e; rw [Edi.inB_yes (by omega) (by omega)] at c2; cases c2
        subst hu0
        have Hng : Hid _ := c2
        clear hu c2
        go_enter Tryz.func19, Tryz.ntmps19
        go_wp2_with (first
          | (go_at_call_of 32 (Value.int .i64 tx); refine (within_val _ _ _ true _ Htx.out).mono ?_; rintro e w1 ⟨rfl, rfl⟩)
          | (go_at_call_of 32 (Value.int .i64 nb); refine (within_val _ _ _ true _ Hnb.out).mono ?_; rintro e w1 ⟨rfl, rfl⟩)
          | (go_at_call_of 32 (Value.int .i64 ng); refine (within_val _ _ _ false _ Hng.out).mono ?_; rintro e w1 ⟨rfl, rfl⟩))
        go_ret
        exact ⟨rfl, bel_al _ _⟩
      | true =>
        have Hng : Hid _ := c2
        have i2 := Edi.inB_iff.1 c2
        clear c2
        cases c3 : Edi.inB 0 now 9007199254740981 with
        | false =>
          have hu0 : u = false := by
            rw [Bool.eq_false_iff]; intro e; have h := hu.1 e; rw [Edi.inB_yes (by omega) (by omega)] at c3; cases c3
          subst hu0
          have Hnow : Hid _ := c3
          clear hu c3
          go_enter Tryz.func19, Tryz.ntmps19
          go_wp2_with (first
            | (go_at_call_of 32 (Value.int .i64 tx); refine (within_val _ _ _ true _ Htx.out).mono ?_; rintro e w1 ⟨rfl, rfl⟩)
            | (go_at_call_of 32 (Value.int .i64 nb); refine (within_val _ _ _ true _ Hnb.out).mono ?_; rintro e w1 ⟨rfl, rfl⟩)
            | (go_at_call_of 32 (Value.int .i64 ng); refine (within_val _ _ _ true _ Hng.out).mono ?_; rintro e w1 ⟨rfl, rfl⟩)
            | (go_at_call_of 32 (Value.int .i64 now); refine (within_val _ _ _ false _ Hnow.out).mono ?_; rintro e w1 ⟨rfl, rfl⟩))
          go_ret
          exact ⟨rfl, bel_al _ _⟩
        | true =>
          have Hnow : Hid _ := c3
          have i3 := Edi.inB_iff.1 c3
          clear c3
          by_cases hR : Right ns
          · have H4 : Hid (Right ns) := hR
            have HR : Hid (Right ns) := hR
            by_cases hO : overL ns = []
            · have HY : Hid (overL ns = []) := hO
              have HM : Hid (([] : List ByteArray).length = 0) := rfl
              obtain ⟨m, hm⟩ : ∃ m : Nat, m = 0 := ⟨0, rfl⟩
              rw [← hm] at HM
              have hm0 : ((m : Int) == 0) = true := by simp [hm]
              clear hm
              by_cases hB : BksOk ⟨tx, nb, ng, now, ns, ls⟩
              · have H6 : Hid (BksOk ⟨tx, nb, ng, now, ns, ls⟩) := hB
                by_cases hL : Lea.Rt ls
                · have H7 : Hid (Lea.Rt ls) := hL
                  by_cases hA : Leased ⟨tx, nb, ng, now, ns, ls⟩
                  · have H8 : Hid (Leased ⟨tx, nb, ng, now, ns, ls⟩) := hA
                    have hu1 : u = true := hu.2 ⟨i0, i1, i2, i3, hR, hO, hB, hL, hA⟩
                    subst hu1
                    clear hu i0 i1 i2 i3 hR hO hB hL hA
                    go_enter Tryz.func19, Tryz.ntmps19
                    go_wp2_with (first
                      | (go_at_call_of 32 (Value.int .i64 tx); refine (within_val _ _ _ true _ Htx.out).mono ?_; rintro e w1 ⟨rfl, rfl⟩)
                      | (go_at_call_of 32 (Value.int .i64 nb); refine (within_val _ _ _ true _ Hnb.out).mono ?_; rintro e w1 ⟨rfl, rfl⟩)
                      | (go_at_call_of 32 (Value.int .i64 ng); refine (within_val _ _ _ true _ Hng.out).mono ?_; rintro e w1 ⟨rfl, rfl⟩)
                      | (go_at_call_of 32 (Value.int .i64 now); refine (within_val _ _ _ true _ Hnow.out).mono ?_; rintro e w1 ⟨rfl, rfl⟩)
                      | (go_at_call 33; refine (CR.out _ true (bel_al _ _) ⟨fun _ => H4.out, fun _ => rfl⟩).mono ?_; rintro e w1 ⟨rfl, c1⟩; have B1 : Hid (Below w.heap.size w w1) := bel_tr (bel_al _ _) c1; have y0 := bel_cell c1 (World.cell?_alloc_new w _ _ 0); have y1 := bel_cell c1 (World.cell?_alloc_new w _ _ 1); have y2 := bel_cell c1 (World.cell?_alloc_new w _ _ 2); have y3 := bel_cell c1 (World.cell?_alloc_new w _ _ 3); have y4 := bel_cell c1 (World.cell?_alloc_new w _ _ 4); have y5 := bel_cell c1 (World.cell?_alloc_new w _ _ 5); clear c1)
                      | (go_at_call 34; refine (CO.out _ _ m B1.out HR.out HY.out HM.out).mono ?_; rintro e w2 ⟨⟨a2, c2, rfl⟩, d2⟩; have B2 : Hid (Below w.heap.size w w2) := bel_tr B1.out d2; have z0 := bel_cell d2 y0; have z1 := bel_cell d2 y1; have z2 := bel_cell d2 y2; have z3 := bel_cell d2 y3; have z4 := bel_cell d2 y4; have z5 := bel_cell d2 y5; clear d2)
                      | (go_at_call 35; refine (CB.out _ true B2.out HR.out ⟨fun _ => H6.out, fun _ => rfl⟩).mono ?_; rintro e w3 ⟨rfl, c3⟩; have B3 : Hid (Below w.heap.size w w3) := bel_tr B2.out c3; have x0 := bel_cell c3 z0; have x1 := bel_cell c3 z1; have x2 := bel_cell c3 z2; have x3 := bel_cell c3 z3; have x4 := bel_cell c3 z4; have x5 := bel_cell c3 z5; clear c3)
                      | (go_at_call 36; refine (CL.out _ true B3.out ⟨fun _ => H7.out, fun _ => rfl⟩).mono ?_; rintro e w4 ⟨rfl, c4⟩; have B4 : Hid (Below w.heap.size w w4) := bel_tr B3.out c4; have v0 := bel_cell c4 x0; have v1 := bel_cell c4 x1; have v2 := bel_cell c4 x2; have v3 := bel_cell c4 x3; have v4 := bel_cell c4 x4; have v5 := bel_cell c4 x5; clear c4)
                      | (go_at_call 37; refine (CA.out _ true B4.out ⟨fun _ => H8.out, fun _ => rfl⟩).mono ?_; rintro e w5 ⟨rfl, c5⟩; have B5 : Hid (Below w.heap.size w w5) := bel_tr B4.out c5; clear c5))
                    go_ret
                    exact ⟨rfl, B5.out⟩
                  · have hu0 : u = false := by
                      rw [Bool.eq_false_iff]; intro e; have h := hu.1 e; exact hA h.2.2.2.2.2.2.2.2
                    subst hu0
                    have H8 : Hid (¬ Leased ⟨tx, nb, ng, now, ns, ls⟩) := hA
                    clear hu i0 i1 i2 i3 hR hO hB hL hA
                    go_enter Tryz.func19, Tryz.ntmps19
                    go_wp2_with (first
                      | (go_at_call_of 32 (Value.int .i64 tx); refine (within_val _ _ _ true _ Htx.out).mono ?_; rintro e w1 ⟨rfl, rfl⟩)
                      | (go_at_call_of 32 (Value.int .i64 nb); refine (within_val _ _ _ true _ Hnb.out).mono ?_; rintro e w1 ⟨rfl, rfl⟩)
                      | (go_at_call_of 32 (Value.int .i64 ng); refine (within_val _ _ _ true _ Hng.out).mono ?_; rintro e w1 ⟨rfl, rfl⟩)
                      | (go_at_call_of 32 (Value.int .i64 now); refine (within_val _ _ _ true _ Hnow.out).mono ?_; rintro e w1 ⟨rfl, rfl⟩)
                      | (go_at_call 33; refine (CR.out _ true (bel_al _ _) ⟨fun _ => H4.out, fun _ => rfl⟩).mono ?_; rintro e w1 ⟨rfl, c1⟩; have B1 : Hid (Below w.heap.size w w1) := bel_tr (bel_al _ _) c1; have y0 := bel_cell c1 (World.cell?_alloc_new w _ _ 0); have y1 := bel_cell c1 (World.cell?_alloc_new w _ _ 1); have y2 := bel_cell c1 (World.cell?_alloc_new w _ _ 2); have y3 := bel_cell c1 (World.cell?_alloc_new w _ _ 3); have y4 := bel_cell c1 (World.cell?_alloc_new w _ _ 4); have y5 := bel_cell c1 (World.cell?_alloc_new w _ _ 5); clear c1)
                      | (go_at_call 34; refine (CO.out _ _ m B1.out HR.out HY.out HM.out).mono ?_; rintro e w2 ⟨⟨a2, c2, rfl⟩, d2⟩; have B2 : Hid (Below w.heap.size w w2) := bel_tr B1.out d2; have z0 := bel_cell d2 y0; have z1 := bel_cell d2 y1; have z2 := bel_cell d2 y2; have z3 := bel_cell d2 y3; have z4 := bel_cell d2 y4; have z5 := bel_cell d2 y5; clear d2)
                      | (go_at_call 35; refine (CB.out _ true B2.out HR.out ⟨fun _ => H6.out, fun _ => rfl⟩).mono ?_; rintro e w3 ⟨rfl, c3⟩; have B3 : Hid (Below w.heap.size w w3) := bel_tr B2.out c3; have x0 := bel_cell c3 z0; have x1 := bel_cell c3 z1; have x2 := bel_cell c3 z2; have x3 := bel_cell c3 z3; have x4 := bel_cell c3 z4; have x5 := bel_cell c3 z5; clear c3)
                      | (go_at_call 36; refine (CL.out _ true B3.out ⟨fun _ => H7.out, fun _ => rfl⟩).mono ?_; rintro e w4 ⟨rfl, c4⟩; have B4 : Hid (Below w.heap.size w w4) := bel_tr B3.out c4; have v0 := bel_cell c4 x0; have v1 := bel_cell c4 x1; have v2 := bel_cell c4 x2; have v3 := bel_cell c4 x3; have v4 := bel_cell c4 x4; have v5 := bel_cell c4 x5; clear c4)
                      | (go_at_call 37; refine (CA.out _ false B4.out ⟨fun e => (by cases e), fun e => absurd e H8.out⟩).mono ?_; rintro e w5 ⟨rfl, c5⟩; have B5 : Hid (Below w.heap.size w w5) := bel_tr B4.out c5; clear c5))
                    go_ret
                    exact ⟨rfl, B5.out⟩
                · have hu0 : u = false := by
                    rw [Bool.eq_false_iff]; intro e; have h := hu.1 e; exact hL h.2.2.2.2.2.2.2.1
                  subst hu0
                  have H7 : Hid (¬ Lea.Rt ls) := hL
                  clear hu i0 i1 i2 i3 hR hO hB hL
                  go_enter Tryz.func19, Tryz.ntmps19
                  go_wp2_with (first
                    | (go_at_call_of 32 (Value.int .i64 tx); refine (within_val _ _ _ true _ Htx.out).mono ?_; rintro e w1 ⟨rfl, rfl⟩)
                    | (go_at_call_of 32 (Value.int .i64 nb); refine (within_val _ _ _ true _ Hnb.out).mono ?_; rintro e w1 ⟨rfl, rfl⟩)
                    | (go_at_call_of 32 (Value.int .i64 ng); refine (within_val _ _ _ true _ Hng.out).mono ?_; rintro e w1 ⟨rfl, rfl⟩)
                    | (go_at_call_of 32 (Value.int .i64 now); refine (within_val _ _ _ true _ Hnow.out).mono ?_; rintro e w1 ⟨rfl, rfl⟩)
                    | (go_at_call 33; refine (CR.out _ true (bel_al _ _) ⟨fun _ => H4.out, fun _ => rfl⟩).mono ?_; rintro e w1 ⟨rfl, c1⟩; have B1 : Hid (Below w.heap.size w w1) := bel_tr (bel_al _ _) c1; have y0 := bel_cell c1 (World.cell?_alloc_new w _ _ 0); have y1 := bel_cell c1 (World.cell?_alloc_new w _ _ 1); have y2 := bel_cell c1 (World.cell?_alloc_new w _ _ 2); have y3 := bel_cell c1 (World.cell?_alloc_new w _ _ 3); have y4 := bel_cell c1 (World.cell?_alloc_new w _ _ 4); have y5 := bel_cell c1 (World.cell?_alloc_new w _ _ 5); clear c1)
                    | (go_at_call 34; refine (CO.out _ _ m B1.out HR.out HY.out HM.out).mono ?_; rintro e w2 ⟨⟨a2, c2, rfl⟩, d2⟩; have B2 : Hid (Below w.heap.size w w2) := bel_tr B1.out d2; have z0 := bel_cell d2 y0; have z1 := bel_cell d2 y1; have z2 := bel_cell d2 y2; have z3 := bel_cell d2 y3; have z4 := bel_cell d2 y4; have z5 := bel_cell d2 y5; clear d2)
                    | (go_at_call 35; refine (CB.out _ true B2.out HR.out ⟨fun _ => H6.out, fun _ => rfl⟩).mono ?_; rintro e w3 ⟨rfl, c3⟩; have B3 : Hid (Below w.heap.size w w3) := bel_tr B2.out c3; have x0 := bel_cell c3 z0; have x1 := bel_cell c3 z1; have x2 := bel_cell c3 z2; have x3 := bel_cell c3 z3; have x4 := bel_cell c3 z4; have x5 := bel_cell c3 z5; clear c3)
                    | (go_at_call 36; refine (CL.out _ false B3.out ⟨fun e => (by cases e), fun e => absurd e H7.out⟩).mono ?_; rintro e w4 ⟨rfl, c4⟩; have B4 : Hid (Below w.heap.size w w4) := bel_tr B3.out c4; have v0 := bel_cell c4 x0; have v1 := bel_cell c4 x1; have v2 := bel_cell c4 x2; have v3 := bel_cell c4 x3; have v4 := bel_cell c4 x4; have v5 := bel_cell c4 x5; clear c4))
                  go_ret
                  exact ⟨rfl, B4.out⟩
              · have hu0 : u = false := by
                  rw [Bool.eq_false_iff]; intro e; have h := hu.1 e; exact hB h.2.2.2.2.2.2.1
                subst hu0
                have H6 : Hid (¬ BksOk ⟨tx, nb, ng, now, ns, ls⟩) := hB
                clear hu i0 i1 i2 i3 hR hO hB
                go_enter Tryz.func19, Tryz.ntmps19
                go_wp2_with (first
                  | (go_at_call_of 32 (Value.int .i64 tx); refine (within_val _ _ _ true _ Htx.out).mono ?_; rintro e w1 ⟨rfl, rfl⟩)
                  | (go_at_call_of 32 (Value.int .i64 nb); refine (within_val _ _ _ true _ Hnb.out).mono ?_; rintro e w1 ⟨rfl, rfl⟩)
                  | (go_at_call_of 32 (Value.int .i64 ng); refine (within_val _ _ _ true _ Hng.out).mono ?_; rintro e w1 ⟨rfl, rfl⟩)
                  | (go_at_call_of 32 (Value.int .i64 now); refine (within_val _ _ _ true _ Hnow.out).mono ?_; rintro e w1 ⟨rfl, rfl⟩)
                  | (go_at_call 33; refine (CR.out _ true (bel_al _ _) ⟨fun _ => H4.out, fun _ => rfl⟩).mono ?_; rintro e w1 ⟨rfl, c1⟩; have B1 : Hid (Below w.heap.size w w1) := bel_tr (bel_al _ _) c1; have y0 := bel_cell c1 (World.cell?_alloc_new w _ _ 0); have y1 := bel_cell c1 (World.cell?_alloc_new w _ _ 1); have y2 := bel_cell c1 (World.cell?_alloc_new w _ _ 2); have y3 := bel_cell c1 (World.cell?_alloc_new w _ _ 3); have y4 := bel_cell c1 (World.cell?_alloc_new w _ _ 4); have y5 := bel_cell c1 (World.cell?_alloc_new w _ _ 5); clear c1)
                  | (go_at_call 34; refine (CO.out _ _ m B1.out HR.out HY.out HM.out).mono ?_; rintro e w2 ⟨⟨a2, c2, rfl⟩, d2⟩; have B2 : Hid (Below w.heap.size w w2) := bel_tr B1.out d2; have z0 := bel_cell d2 y0; have z1 := bel_cell d2 y1; have z2 := bel_cell d2 y2; have z3 := bel_cell d2 y3; have z4 := bel_cell d2 y4; have z5 := bel_cell d2 y5; clear d2)
                  | (go_at_call 35; refine (CB.out _ false B2.out HR.out ⟨fun e => (by cases e), fun e => absurd e H6.out⟩).mono ?_; rintro e w3 ⟨rfl, c3⟩; have B3 : Hid (Below w.heap.size w w3) := bel_tr B2.out c3; have x0 := bel_cell c3 z0; have x1 := bel_cell c3 z1; have x2 := bel_cell c3 z2; have x3 := bel_cell c3 z3; have x4 := bel_cell c3 z4; have x5 := bel_cell c3 z5; clear c3))
                go_ret
                exact ⟨rfl, B3.out⟩
            · have hu0 : u = false := by
                rw [Bool.eq_false_iff]; intro e; have h := hu.1 e; exact hO h.2.2.2.2.2.1
              subst hu0
              obtain ⟨ys, hy⟩ : ∃ ys, overL ns = ys := ⟨_, rfl⟩
              obtain ⟨m, hm⟩ : ∃ m, ys.length = m := ⟨_, rfl⟩
              have HY : Hid _ := hy
              have HM : Hid _ := hm
              have hm0 : ((m : Int) == 0) = false := by
                rw [beq_eq_false_iff_ne]; intro e; exact hO (by rw [hy]; exact List.length_eq_zero_iff.1 (by omega))
              clear hy hm
              clear hu i0 i1 i2 i3 hR hO
              go_enter Tryz.func19, Tryz.ntmps19
              go_wp2_with (first
                | (go_at_call_of 32 (Value.int .i64 tx); refine (within_val _ _ _ true _ Htx.out).mono ?_; rintro e w1 ⟨rfl, rfl⟩)
                | (go_at_call_of 32 (Value.int .i64 nb); refine (within_val _ _ _ true _ Hnb.out).mono ?_; rintro e w1 ⟨rfl, rfl⟩)
                | (go_at_call_of 32 (Value.int .i64 ng); refine (within_val _ _ _ true _ Hng.out).mono ?_; rintro e w1 ⟨rfl, rfl⟩)
                | (go_at_call_of 32 (Value.int .i64 now); refine (within_val _ _ _ true _ Hnow.out).mono ?_; rintro e w1 ⟨rfl, rfl⟩)
                | (go_at_call 33; refine (CR.out _ true (bel_al _ _) ⟨fun _ => H4.out, fun _ => rfl⟩).mono ?_; rintro e w1 ⟨rfl, c1⟩; have B1 : Hid (Below w.heap.size w w1) := bel_tr (bel_al _ _) c1; have y0 := bel_cell c1 (World.cell?_alloc_new w _ _ 0); have y1 := bel_cell c1 (World.cell?_alloc_new w _ _ 1); have y2 := bel_cell c1 (World.cell?_alloc_new w _ _ 2); have y3 := bel_cell c1 (World.cell?_alloc_new w _ _ 3); have y4 := bel_cell c1 (World.cell?_alloc_new w _ _ 4); have y5 := bel_cell c1 (World.cell?_alloc_new w _ _ 5); clear c1)
                | (go_at_call 34; refine (CO.out _ _ m B1.out HR.out HY.out HM.out).mono ?_; rintro e w2 ⟨⟨a2, c2, rfl⟩, d2⟩; have B2 : Hid (Below w.heap.size w w2) := bel_tr B1.out d2; have z0 := bel_cell d2 y0; have z1 := bel_cell d2 y1; have z2 := bel_cell d2 y2; have z3 := bel_cell d2 y3; have z4 := bel_cell d2 y4; have z5 := bel_cell d2 y5; clear d2))
              go_ret
              exact ⟨rfl, B2.out⟩
          · have hu0 : u = false := by
              rw [Bool.eq_false_iff]; intro e; have h := hu.1 e; exact hR h.2.2.2.2.1
            subst hu0
            have H4 : Hid (¬ Right ns) := hR
            clear hu i0 i1 i2 i3 hR
            go_enter Tryz.func19, Tryz.ntmps19
            go_wp2_with (first
              | (go_at_call_of 32 (Value.int .i64 tx); refine (within_val _ _ _ true _ Htx.out).mono ?_; rintro e w1 ⟨rfl, rfl⟩)
              | (go_at_call_of 32 (Value.int .i64 nb); refine (within_val _ _ _ true _ Hnb.out).mono ?_; rintro e w1 ⟨rfl, rfl⟩)
              | (go_at_call_of 32 (Value.int .i64 ng); refine (within_val _ _ _ true _ Hng.out).mono ?_; rintro e w1 ⟨rfl, rfl⟩)
              | (go_at_call_of 32 (Value.int .i64 now); refine (within_val _ _ _ true _ Hnow.out).mono ?_; rintro e w1 ⟨rfl, rfl⟩)
              | (go_at_call 33; refine (CR.out _ false (bel_al _ _) ⟨fun e => (by cases e), fun e => absurd e H4.out⟩).mono ?_; rintro e w1 ⟨rfl, c1⟩; have B1 : Hid (Below w.heap.size w w1) := bel_tr (bel_al _ _) c1; have y0 := bel_cell c1 (World.cell?_alloc_new w _ _ 0); have y1 := bel_cell c1 (World.cell?_alloc_new w _ _ 1); have y2 := bel_cell c1 (World.cell?_alloc_new w _ _ 2); have y3 := bel_cell c1 (World.cell?_alloc_new w _ _ 3); have y4 := bel_cell c1 (World.cell?_alloc_new w _ _ 4); have y5 := bel_cell c1 (World.cell?_alloc_new w _ _ 5); clear c1))
            go_ret
            exact ⟨rfl, B1.out⟩

end Go.Proofs.YticiihjkgiookaaGreat.Spa

/- The contracts of space.nodeAt, fileAt, written. -/
namespace Go.Proofs.YticiihjkgiookaaGreat.Spa
open Go.RowKit Go.Proofs.YticiihjkgiookaaGreat
open Go.Proofs.YticiihjkgiookaaGreat.Lea (LS Ls findX putL renX LL LO LsR)
open Go.Proofs.YticiihjkgiookaaGreat.Edi (Ed Nm EdAt edV)

set_option maxRecDepth 100000 in
set_option maxHeartbeats 1000000 in
theorem nodeAt_ok {S gb n c : Nat} {xs : NS} {w : World} (c4 : w.cell? ⟨S, 4, none⟩ = some (.slice (some ⟨gb, 0, none⟩) n c)) (h : NL w (some ⟨gb, 0, none⟩) n xs) (p : ByteArray) (hs : p.size ≤ maxLen) (i : Nat) (x : Nd) (hi : Is xs p i x) :
    Calls Tryz.prog 95 #[.pointer (some ⟨S, 0, none⟩), .string p] w fun e w' => e = .returned (.pointer (some ⟨gb, i * 5, none⟩)) ∧ Below w.heap.size w w' := by
  have hin : i < n := by
    obtain ⟨_, _, _, _, k2, _⟩ := h.ex
    rw [← k2]; exact hi.lt
  have hlid := h.lid
  unfold maxLen at hlid
  have CF : Hid (∀ dd os, Calls Tryz.prog 30 #[.slice (some ⟨gb, 0, none⟩) n c, .string p] (Sort.grow (redrawn w dd) os) fun e w' => e = .returned (.tuple #[.int .i64 (i : Int), .int .i64 0]) ∧ Below (Sort.grow (redrawn w dd) os).heap.size (Sort.grow (redrawn w dd) os) w') := fun dd os => find_is (h.below (below_regrown w dd os)) p hs _ _ (.ok i x hi)
  have CT : Hid (∀ W, Calls Tryz.prog 136 #[.int .i64 (i : Int), .int .i64 0] W fun e w' => e = .returned (.int .i64 (i : Int)) ∧ Below W.heap.size W w') := fun W => (takenI_ok W).mono fun e w' ⟨h1, h2⟩ => ⟨h1, by rw [h2]; exact Below.refl _ _⟩
  have r4 : ∀ dd os, (Sort.grow (redrawn w dd) os).cell? ⟨S, 4, none⟩ = some (.slice (some ⟨gb, 0, none⟩) n c) := fun dd os => cell_regrown c4 dd os
  clear h hi
  go_enter Tryz.func95, Tryz.ntmps95
  go_wp2
  refine wp_region_quiet_below (by kernel_rfl) (by kernel_rfl) ?_
  repeat (first | go_big_quiet_step (first | exact Calls.regrown_of (CF.out _ _) | exact Calls.regrown_of (CT.out _)) | quiet_step (first | exact Calls.regrown_of (CF.out _ _) | exact Calls.regrown_of (CT.out _)))
  refine wpQuiet_nil ?_
  intro _ hw'
  obtain ⟨⟨dq, osq⟩, hw''⟩ := hw'
  subst hw''
  go_wp2
  go_ret
  exact ⟨rfl, below_regrown w dq osq⟩

set_option maxRecDepth 100000 in
set_option maxHeartbeats 1000000 in
theorem nodeAt_no {S n c : Nat} {a : Option Addr} {xs : NS} {w : World} (c4 : w.cell? ⟨S, 4, none⟩ = some (.slice a n c)) (h : NL w a n xs) (p : ByteArray) (hs : p.size ≤ maxLen) (E : Int) (hE : NodeE xs p E) (h0 : E ≠ 0) :
    Calls Tryz.prog 95 #[.pointer (some ⟨S, 0, none⟩), .string p] w fun e w' => e = leftV E ∧ Below w.heap.size w w' := by
  have hR : FindR xs p 0 E := by
    cases hE with
    | arg h1 => exact .arg h1
    | none h1 h2 => exact .none h1 h2
    | ok i x hi => exact absurd rfl h0
  have h0b : (E != 0) = true := by simpa using h0
  have CF : Hid (∀ W, Below w.heap.size w W → Calls Tryz.prog 30 #[.slice a n c, .string p] W fun e w' => e = .returned (.tuple #[.int .i64 0, .int .i64 E]) ∧ Below W.heap.size W w') := fun W hb => find_is (h.below hb) p hs _ _ hR
  have HC : Hid (∀ W, Below w.heap.size w W → W.cell? ⟨S, 4, none⟩ = some (.slice a n c)) := fun W hb => bel_cell hb c4
  clear h hE hR h0
  go_enter Tryz.func95, Tryz.ntmps95
  go_wp2
  refine wp_region_any (by kernel_rfl) ?_
  try (change wpAny _ _ _ _ _ _ _ (World.drew _))
  refine wpAny_take (i := 0) (v := ?_) rfl (by kernel_rfl) (by kernel_rfl) (by kernel_rfl) (fun _ _ _ h => h) (Or.inl ⟨by rfl, ?_⟩) ?_
  rotate_left
  · intro w; go_simp; first | done | with_reducible rfl
  refine wpAny_take (i := 1) (v := ?_) rfl (by kernel_rfl) (by kernel_rfl) (by kernel_rfl) (fun _ _ _ h => h) (Or.inl ⟨by rfl, ?_⟩) ?_
  rotate_left
  · intro w; go_simp; first | done | with_reducible rfl
  refine wpAny_take (i := 2) (v := ?_) rfl (by kernel_rfl) (by kernel_rfl) (by kernel_rfl) (fun _ _ _ h => h) (Or.inl ⟨by rfl, ?_⟩) ?_
  rotate_left
  · intro w; go_simp; first | done | with_reducible rfl
  refine wpAny_take (i := 4) (v := ?_) rfl (by kernel_rfl) (by kernel_rfl) (by kernel_rfl) (fun _ _ _ h => h) (Or.inl ⟨by rfl, ?_⟩) ?_
  rotate_left
  · intro w; go_simp; first | done | with_reducible rfl
  refine wpAny_take (i := 5) (v := ?_) rfl (by kernel_rfl) (by kernel_rfl) (by kernel_rfl) (fun _ _ _ h => h) (Or.inl ⟨by rfl, ?_⟩) ?_
  rotate_left
  · intro w; go_simp; first | done | with_reducible rfl
  refine wpAny_take (i := 6) (v := ?_) rfl (by kernel_rfl) (by kernel_rfl) (by kernel_rfl) (fun _ _ _ h => h) (Or.inl ⟨by rfl, ?_⟩) ?_
  rotate_left
  · intro w; go_simp; first | done | with_reducible rfl
  refine wpAny_take (i := 8) (v := ?_) rfl (by kernel_rfl) (by kernel_rfl) (by kernel_rfl) (fun _ _ _ h => h) (Or.inl ⟨by rfl, ?_⟩) ?_
  rotate_left
  · intro w; go_simp; first | done | with_reducible rfl
  refine wpAny_ready (rs := [3, 7]) (by kernel_rfl) (by simp) ?_
  refine AllReady.cons rfl (fun K hK => ?_) ?_
  · go_simp
    refine hK _ _ ?_
    clear hK K
    refine wpAny_ready (rs := [7]) (by kernel_rfl) (by simp) ?_
    refine AllReady.cons rfl (fun K hK => ?_) ?_
    · go_simp
      refine hK _ _ ?_
      clear hK K
      refine wpAny_ready (rs := [9]) (by kernel_rfl) (by simp) ?_
      refine AllReady.cons rfl (fun K hK => ?_) ?_
      · go_simp
        refine (CF.out _ (bel_drewN _ 1)).mono ?_; rintro e w1 ⟨rfl, c1⟩; have B1 : Hid (Below w.heap.size w w1) := bel_tr (bel_drewN w 1) c1; have d4 := HC.out _ B1.out; clear c1
        try go_simp
        refine hK _ _ ?_
        clear hK K
        refine wpAny_take (i := 10) (v := ?_) rfl (by kernel_rfl) (by kernel_rfl) (by kernel_rfl) (fun _ _ _ h => h) (Or.inl ⟨by rfl, ?_⟩) ?_
        rotate_left
        · intro w; go_simp; first | done | with_reducible rfl
        refine wpAny_take (i := 11) (v := ?_) rfl (by kernel_rfl) (by kernel_rfl) (by kernel_rfl) (fun _ _ _ h => h) (Or.inl ⟨by rfl, ?_⟩) ?_
        rotate_left
        · intro w; go_simp; first | done | with_reducible rfl
        refine wpAny_ready (rs := [12]) (by kernel_rfl) (by simp) ?_
        refine AllReady.cons rfl (fun K hK => ?_) ?_
        · go_simp
          refine (takenI_no _ h0b _).mono ?_; rintro e w2 ⟨rfl, rfl⟩; exact ⟨rfl, rfl, B1.out⟩
        exact AllReady.nil
      exact AllReady.nil
    exact AllReady.nil
  refine AllReady.cons rfl (fun K hK => ?_) ?_
  · go_simp
    refine hK _ _ ?_
    clear hK K
    refine wpAny_ready (rs := [3, 9]) (by kernel_rfl) (by simp) ?_
    refine AllReady.cons rfl (fun K hK => ?_) ?_
    · go_simp
      refine hK _ _ ?_
      clear hK K
      refine wpAny_ready (rs := [9]) (by kernel_rfl) (by simp) ?_
      refine AllReady.cons rfl (fun K hK => ?_) ?_
      · go_simp
        refine (CF.out _ (bel_drewN _ 1)).mono ?_; rintro e w1 ⟨rfl, c1⟩; have B1 : Hid (Below w.heap.size w w1) := bel_tr (bel_drewN w 1) c1; have d4 := HC.out _ B1.out; clear c1
        try go_simp
        refine hK _ _ ?_
        clear hK K
        refine wpAny_take (i := 10) (v := ?_) rfl (by kernel_rfl) (by kernel_rfl) (by kernel_rfl) (fun _ _ _ h => h) (Or.inl ⟨by rfl, ?_⟩) ?_
        rotate_left
        · intro w; go_simp; first | done | with_reducible rfl
        refine wpAny_take (i := 11) (v := ?_) rfl (by kernel_rfl) (by kernel_rfl) (by kernel_rfl) (fun _ _ _ h => h) (Or.inl ⟨by rfl, ?_⟩) ?_
        rotate_left
        · intro w; go_simp; first | done | with_reducible rfl
        refine wpAny_ready (rs := [12]) (by kernel_rfl) (by simp) ?_
        refine AllReady.cons rfl (fun K hK => ?_) ?_
        · go_simp
          refine (takenI_no _ h0b _).mono ?_; rintro e w2 ⟨rfl, rfl⟩; exact ⟨rfl, rfl, B1.out⟩
        exact AllReady.nil
      exact AllReady.nil
    refine AllReady.cons rfl (fun K hK => ?_) ?_
    · go_simp
      refine (CF.out _ (bel_drewN _ 1)).mono ?_; rintro e w1 ⟨rfl, c1⟩; have B1 : Hid (Below w.heap.size w w1) := bel_tr (bel_drewN w 1) c1; have d4 := HC.out _ B1.out; clear c1
      try go_simp
      refine hK _ _ ?_
      clear hK K
      refine wpAny_take (i := 10) (v := ?_) rfl (by kernel_rfl) (by kernel_rfl) (by kernel_rfl) (fun _ _ _ h => h) (Or.inl ⟨by rfl, ?_⟩) ?_
      rotate_left
      · intro w; go_simp; first | done | with_reducible rfl
      refine wpAny_take (i := 11) (v := ?_) rfl (by kernel_rfl) (by kernel_rfl) (by kernel_rfl) (fun _ _ _ h => h) (Or.inl ⟨by rfl, ?_⟩) ?_
      rotate_left
      · intro w; go_simp; first | done | with_reducible rfl
      refine wpAny_ready (rs := [3, 12]) (by kernel_rfl) (by simp) ?_
      refine AllReady.cons rfl (fun K hK => ?_) ?_
      · go_simp
        refine hK _ _ ?_
        clear hK K
        refine wpAny_ready (rs := [12]) (by kernel_rfl) (by simp) ?_
        refine AllReady.cons rfl (fun K hK => ?_) ?_
        · go_simp
          refine (takenI_no _ h0b _).mono ?_; rintro e w2 ⟨rfl, rfl⟩; exact ⟨rfl, rfl, B1.out⟩
        exact AllReady.nil
      refine AllReady.cons rfl (fun K hK => ?_) ?_
      · go_simp
        refine (takenI_no _ h0b _).mono ?_; rintro e w2 ⟨rfl, rfl⟩; exact ⟨rfl, rfl, B1.out⟩
      exact AllReady.nil
    exact AllReady.nil
  exact AllReady.nil

/-- The cells of a node that lies at the i-th place of a block. -/
structure NdAt (w : World) (b i : Nat) (x : NR) : Prop where
  c0 : w.cell? ⟨b, i * 5, none⟩ = some (.string x.1.path)
  c1 : w.cell? ⟨b, i * 5 + 1, none⟩ = some (.bool x.1.dir)
  c2 : w.cell? ⟨b, i * 5 + 2, none⟩ = some (.int .i64 x.1.quota)
  c3 : w.cell? ⟨b, i * 5 + 3, none⟩ = some (.slice x.2.a x.2.n x.2.c)
  c4 : w.cell? ⟨b, i * 5 + 4, none⟩ = some (.int .i64 x.1.wr)
theorem NdAt.below {w w' : World} {b i : Nat} {x : NR} (h : NdAt w b i x) (hb : Below w.heap.size w w') : NdAt w' b i x :=
  ⟨bel_cell hb h.c0, bel_cell hb h.c1, bel_cell hb h.c2, bel_cell hb h.c3, bel_cell hb h.c4⟩

/-- Where the nodes of a space lie. -/
structure Lies (w : World) (S gb n c : Nat) (ps : List NR) : Prop where
  c4 : w.cell? ⟨S, 4, none⟩ = some (.slice (some ⟨gb, 0, none⟩) n c)
  nds : Nds w (some ⟨gb, 0, none⟩) gb 0 ps
  len : ps.length = n
theorem Lies.below {w w' : World} {S gb n c : Nat} {ps : List NR} (h : Lies w S gb n c ps) (hb : Below w.heap.size w w') : Lies w' S gb n c ps := ⟨bel_cell hb h.c4, h.nds.below hb, h.len⟩
theorem Lies.nl {w : World} {S gb n c : Nat} {ps : List NR} (h : Lies w S gb n c ps) : NL w (some ⟨gb, 0, none⟩) n (ps.map (·.1)) := ⟨gb, 0, ps, rfl, by rw [List.length_map]; exact h.len, h.nds⟩
theorem Lies.at {w : World} {S gb n c : Nat} {ps : List NR} (h : Lies w S gb n c ps) {i : Nat} (hi : i < ps.length) : NdAt w gb i ps[i] := by
  obtain ⟨e0, e1, e2, e3, e4⟩ := h.nds.at hi
  rw [Nat.zero_add] at e0 e1 e2 e3 e4
  exact ⟨e0, e1, e2, e3, e4⟩
theorem is_at {ps : List NR} {p : ByteArray} {i : Nat} {x : Nd} (hi : Is (ps.map (·.1)) p i x) : ∃ h : i < ps.length, ps[i].1 = x := by
  have h1 := hi.lt
  rw [List.length_map] at h1
  have h2 := hi.get
  simp only [List.getElem_map] at h2
  exact ⟨h1, h2⟩

set_option maxRecDepth 100000 in
theorem fileAt_ok {S gb n c : Nat} {ps : List NR} {w : World} (h : Lies w S gb n c ps) (p : ByteArray) (hs : p.size ≤ maxLen) (i : Nat) (x : Nd) (hi : Is (ps.map (·.1)) p i x) (hd : x.dir = false) :
    Calls Tryz.prog 97 #[.pointer (some ⟨S, 0, none⟩), .string p] w fun e w' => e = .returned (.pointer (some ⟨gb, i * 5, none⟩)) ∧ Below w.heap.size w w' := by
  have CN : Hid (Calls Tryz.prog 95 #[.pointer (some ⟨S, 0, none⟩), .string p] w fun e w' => e = .returned (.pointer (some ⟨gb, i * 5, none⟩)) ∧ Below w.heap.size w w') := nodeAt_ok h.c4 h.nl p hs i x hi
  obtain ⟨hip, hx⟩ := is_at hi
  have k1 := (h.at hip).c1
  rw [hx, hd] at k1
  have K1 : Hid (w.cell? ⟨gb, i * 5 + 1, none⟩ = some (.bool false)) := k1
  clear h hi hd hx k1 hip
  go_enter Tryz.func97, Tryz.ntmps97
  go_wp2_with (first
    | (go_at_call 95; refine CN.out.mono ?_; rintro e w1 ⟨rfl, c1⟩; have y1 := bel_cell c1 K1.out; have B1 : Hid _ := c1; clear c1)
    | (go_at_call 18; refine (refuse_no _ _).mono ?_; rintro e w2 ⟨rfl, rfl⟩))
  go_ret
  exact ⟨rfl, B1.out⟩

set_option maxRecDepth 100000 in
theorem fileAt_no {S gb n c : Nat} {ps : List NR} {w : World} (h : Lies w S gb n c ps) (p : ByteArray) (hs : p.size ≤ maxLen) (E : Int) (hE : FileE (ps.map (·.1)) p E) (h0 : E ≠ 0) :
    Calls Tryz.prog 97 #[.pointer (some ⟨S, 0, none⟩), .string p] w fun e w' => e = leftV E ∧ Below w.heap.size w w' := by
  cases hE with
  | node _ hN _ =>
    have CN : Hid (Calls Tryz.prog 95 #[.pointer (some ⟨S, 0, none⟩), .string p] w fun e w' => e = leftV E ∧ Below w.heap.size w w') := nodeAt_no h.c4 h.nl p hs E hN h0
    clear h hN
    go_enter Tryz.func97, Tryz.ntmps97
    go_wp2_with (go_at_call 95; refine CN.out.mono ?_; rintro e w1 ⟨rfl, c1⟩)
    exact ⟨rfl, rfl, c1⟩
  | dir i x hi hd =>
    have CN : Hid (Calls Tryz.prog 95 #[.pointer (some ⟨S, 0, none⟩), .string p] w fun e w' => e = .returned (.pointer (some ⟨gb, i * 5, none⟩)) ∧ Below w.heap.size w w') := nodeAt_ok h.c4 h.nl p hs i x hi
    obtain ⟨hip, hx⟩ := is_at hi
    have k1 := (h.at hip).c1
    rw [hx, hd] at k1
    have K1 : Hid (w.cell? ⟨gb, i * 5 + 1, none⟩ = some (.bool true)) := k1
    clear h hi hd hx k1 hip
    go_enter Tryz.func97, Tryz.ntmps97
    go_wp2_with (first
      | (go_at_call 95; refine CN.out.mono ?_; rintro e w1 ⟨rfl, c1⟩; have y1 := bel_cell c1 K1.out; have B1 : Hid _ := c1; clear c1)
      | (go_at_call 18; refine (refuse_yes _ _).mono ?_; rintro e w2 ⟨rfl, rfl⟩))
    exact ⟨rfl, rfl, B1.out⟩
  | ok i x hi hd => exact absurd rfl h0

set_option maxRecDepth 100000 in
set_option maxHeartbeats 1000000 in
theorem written_ok {S gb n c : Nat} {ps : List NR} {w : World} (h : Lies w S gb n c ps) (e : Ed) (ea : Option Addr) (em eq : Nat) (hs : e.p.size ≤ maxLen) (i : Nat) (x : Nd) (hi : Is (ps.map (·.1)) e.p i x) (hd : x.dir = false) (hw : x.wr = e.c) :
    Calls Tryz.prog 93 #[.pointer (some ⟨S, 0, none⟩), edV e ea em eq] w fun e w' => e = .returned (.pointer (some ⟨gb, i * 5, none⟩)) ∧ Below w.heap.size w w' := by
  have CN : Hid (∀ W, Below w.heap.size w W → Calls Tryz.prog 97 #[.pointer (some ⟨S, 0, none⟩), .string e.p] W fun e w' => e = .returned (.pointer (some ⟨gb, i * 5, none⟩)) ∧ Below W.heap.size W w') := fun W hb => fileAt_ok (h.below hb) e.p hs i x hi hd
  obtain ⟨hip, hx⟩ := is_at hi
  have k4 := (h.at hip).c4
  rw [hx, hw] at k4
  obtain ⟨k, p, t, cl, l, nn, ls⟩ := e
  have K4 : Hid (w.cell? ⟨gb, i * 5 + 4, none⟩ = some (.int .i64 cl)) := k4
  have hne : (cl != cl) = false := by simp
  unfold edV
  simp only at CN ⊢
  clear h hi hd hx k4 hip hw hs
  have hst := run_store_str
  have CR : Hid (∀ W, Calls Tryz.prog 18 #[.bool false, .int .i64 9] W fun e w' => e = .returned (.tuple #[]) ∧ Below W.heap.size W w') := fun W => (refuse_no _ W).mono fun e w' ⟨h1, h2⟩ => ⟨h1, by rw [h2]; exact Below.refl _ _⟩
  go_enter Tryz.func93, Tryz.ntmps93
  go_wp2_with (go_at_call 97; refine (CN.out _ (bel_al _ _)).mono ?_; rintro e w1 ⟨rfl, c1⟩; have y4 := bel_cell c1 (cell_al K4.out _); have z3 := bel_cell c1 (World.cell?_alloc_new w _ _ 3); have B1 : Hid (Below w.heap.size w w1) := bel_tr (bel_al _ _) c1; clear c1)
  have r4 : ∀ dd os, (Sort.grow (redrawn w1 dd) os).cell? ⟨gb, i * 5 + 4, none⟩ = some (.int .i64 cl) := fun dd os => cell_regrown y4 dd os
  have r3 : ∀ dd os, (Sort.grow (redrawn w1 dd) os).cell? ⟨w.heap.size, 3, none⟩ = some (.int .i64 cl) := fun dd os => cell_regrown z3 dd os
  refine wp_region_quiet_below (by kernel_rfl) (by kernel_rfl) ?_
  repeat (first | go_big_quiet_step (exact Calls.regrown_of (CR.out _)) | quiet_step (exact Calls.regrown_of (CR.out _)))
  refine wpQuiet_nil ?_
  intro _ hw'
  obtain ⟨⟨dq, osq⟩, hw''⟩ := hw'
  subst hw''
  go_wp2
  go_ret
  exact ⟨rfl, bel_tr B1.out (below_regrown w1 dq osq)⟩

set_option maxRecDepth 100000 in
set_option maxHeartbeats 1000000 in
theorem written_no {S gb n c : Nat} {ps : List NR} {w : World} (h : Lies w S gb n c ps) (e : Ed) (ea : Option Addr) (em eq : Nat) (hs : e.p.size ≤ maxLen) (E : Int) (hE : WritE (ps.map (·.1)) e.p e.c E) (h0 : E ≠ 0) :
    Calls Tryz.prog 93 #[.pointer (some ⟨S, 0, none⟩), edV e ea em eq] w fun e w' => e = leftV E ∧ Below w.heap.size w w' := by
  cases hE with
  | file _ hF _ =>
    have CN : Hid (∀ W, Below w.heap.size w W → Calls Tryz.prog 97 #[.pointer (some ⟨S, 0, none⟩), .string e.p] W fun e w' => e = leftV E ∧ Below W.heap.size W w') := fun W hb => fileAt_no (h.below hb) e.p hs E hF h0
    obtain ⟨k, p, t, cl, l, nn, ls⟩ := e
    unfold edV
    simp only at CN ⊢
    clear h hF hs
    have hst := run_store_str
    go_enter Tryz.func93, Tryz.ntmps93
    go_wp2_with (go_at_call 97; refine (CN.out _ (bel_al _ _)).mono ?_; rintro e w1 ⟨rfl, c1⟩)
    exact ⟨rfl, rfl, bel_tr (bel_al _ _) c1⟩
  | lease i x hi hd hw =>
    have CN : Hid (∀ W, Below w.heap.size w W → Calls Tryz.prog 97 #[.pointer (some ⟨S, 0, none⟩), .string e.p] W fun e w' => e = .returned (.pointer (some ⟨gb, i * 5, none⟩)) ∧ Below W.heap.size W w') := fun W hb => fileAt_ok (h.below hb) e.p hs i x hi hd
    obtain ⟨hip, hx⟩ := is_at hi
    have k4 := (h.at hip).c4
    rw [hx] at k4
    obtain ⟨k, p, t, cl, l, nn, ls⟩ := e
    obtain ⟨xp, xd, xq, xb, xw⟩ := x
    have K4 : Hid (w.cell? ⟨gb, i * 5 + 4, none⟩ = some (.int .i64 xw)) := k4
    have hne : (xw != cl) = true := by simpa using hw
    unfold edV
    simp only at CN ⊢
    clear h hi hd hx k4 hip hw hs
    have hst := run_store_str
    go_enter Tryz.func93, Tryz.ntmps93
    go_wp2_with (go_at_call 97; refine (CN.out _ (bel_al _ _)).mono ?_; rintro e w1 ⟨rfl, c1⟩; have y4 := bel_cell c1 (cell_al K4.out _); have z3 := bel_cell c1 (World.cell?_alloc_new w _ _ 3); have B1 : Hid (Below w.heap.size w w1) := bel_tr (bel_al _ _) c1; clear c1)
    refine wp_region_any (by kernel_rfl) ?_
    try (change wpAny _ _ _ _ _ _ _ (World.drew _))
    refine wpAny_take (i := 0) (v := ?_) rfl (by kernel_rfl) (by kernel_rfl) (by kernel_rfl) (fun _ _ _ h => h) (Or.inl ⟨by rfl, ?_⟩) ?_
    rotate_left
    · intro w; go_simp; first | done | with_reducible rfl
    refine wpAny_take (i := 1) (v := ?_) rfl (by kernel_rfl) (by kernel_rfl) (by kernel_rfl) (fun _ _ _ h => h) (Or.inl ⟨by rfl, ?_⟩) ?_
    rotate_left
    · intro w; go_simp; first | done | with_reducible rfl
    refine wpAny_take (i := 2) (v := ?_) rfl (by kernel_rfl) (by kernel_rfl) (by kernel_rfl) (fun _ _ _ h => h) (Or.inl ⟨by rfl, ?_⟩) ?_
    rotate_left
    · intro w; go_simp; first | done | with_reducible rfl
    refine wpAny_take (i := 4) (v := ?_) rfl (by kernel_rfl) (by kernel_rfl) (by kernel_rfl) (fun _ _ _ h => h) (Or.inl ⟨by rfl, ?_⟩) ?_
    rotate_left
    · intro w; go_simp; first | done | with_reducible rfl
    refine wpAny_ready (rs := [3, 5]) (by kernel_rfl) (by simp) ?_
    refine AllReady.cons rfl (fun K hK => ?_) ?_
    · go_simp
      refine hK _ _ ?_
      clear hK K
      refine wpAny_ready (rs := [5]) (by kernel_rfl) (by simp) ?_
      refine AllReady.cons rfl (fun K hK => ?_) ?_
      · go_simp
        refine hK _ _ ?_
        clear hK K
        refine wpAny_take (i := 6) (v := ?_) rfl (by kernel_rfl) (by kernel_rfl) (by kernel_rfl) (fun _ _ _ h => h) (Or.inl ⟨by rfl, ?_⟩) ?_
        rotate_left
        · intro w; go_simp; first | done | with_reducible rfl
        refine wpAny_ready (rs := [7]) (by kernel_rfl) (by simp) ?_
        refine AllReady.cons rfl (fun K hK => ?_) ?_
        · go_simp
          refine (refuse_yes _ _).mono ?_; rintro e w2 ⟨rfl, rfl⟩; exact ⟨rfl, rfl, bel_tr B1.out (bel_drewN _ 1)⟩
        exact AllReady.nil
      exact AllReady.nil
    refine AllReady.cons rfl (fun K hK => ?_) ?_
    · go_simp
      refine hK _ _ ?_
      clear hK K
      refine wpAny_ready (rs := [3]) (by kernel_rfl) (by simp) ?_
      refine AllReady.cons rfl (fun K hK => ?_) ?_
      · go_simp
        refine hK _ _ ?_
        clear hK K
        refine wpAny_take (i := 6) (v := ?_) rfl (by kernel_rfl) (by kernel_rfl) (by kernel_rfl) (fun _ _ _ h => h) (Or.inl ⟨by rfl, ?_⟩) ?_
        rotate_left
        · intro w; go_simp; first | done | with_reducible rfl
        refine wpAny_ready (rs := [7]) (by kernel_rfl) (by simp) ?_
        refine AllReady.cons rfl (fun K hK => ?_) ?_
        · go_simp
          refine (refuse_yes _ _).mono ?_; rintro e w2 ⟨rfl, rfl⟩; exact ⟨rfl, rfl, bel_tr B1.out (bel_drewN _ 1)⟩
        exact AllReady.nil
      exact AllReady.nil
    exact AllReady.nil
  | ok i x hi hd => exact absurd rfl h0

end Go.Proofs.YticiihjkgiookaaGreat.Spa

/- The contracts of slices.Clone at nodes and at leases, space.copied. -/
namespace Go.Proofs.YticiihjkgiookaaGreat.Spa
open Go.RowKit Go.Proofs.YticiihjkgiookaaGreat
open Go.Proofs.YticiihjkgiookaaGreat.Lea (LS Ls findX putL renX LL LO LsR lsC wideL)

theorem src_nds {w : World} {b off n c : Nat} {ps : List NR} (h : Nds w (some ⟨b, off, none⟩) b off ps) (hn : ps.length = n) : Src Tryz.prog 5 24 (.slice (some ⟨b, off, none⟩) n c) n (rowC ndC ps) w := by
  refine Src.ofSlice w Tryz.underlying24 ⟨b, off, none⟩ n c (rowC ndC ps) (by rw [rowC_len wideX, hn]) (fun j u hu => ?_) (rowC_oneCell wideX ps)
  rw [Addr.add_lit]
  have hj : j < (rowC ndC ps).length := (List.getElem?_eq_some_iff.1 hu).1
  rw [rowC_len wideX] at hj
  obtain ⟨i, r, rfl, hr⟩ : ∃ i r, j = i * 5 + r ∧ r < 5 := ⟨j / 5, j % 5, by omega, by omega⟩
  have hi : i < ps.length := by omega
  rw [rowC_at wideX ps i hi r hr] at hu
  rw [← Nat.add_assoc]
  exact h.cell i hi r u hu


theorem lsRow : ∃ i, Tryz.prog.info? 71 = some i ∧ i.zero = some (.agg #[.int .i64 0, .int .i64 0]) ∧ i.size = 2 ∧ i.bytes = 16 :=
  info_parts3 (show (Tryz.prog.info? 71).map (fun i => (i.zero, i.size, i.bytes)) = some (some (.agg #[.int .i64 0, .int .i64 0]), 2, 16) by kernel_rfl)
theorem nilNds (w : World) (a : Option Addr) (n c : Nat) : (binOp .eql 24 (.slice a n c) (.slice none 0 0)).run Tryz.prog w = .ok (.bool a.isNone) w := Lib.run_eql_slice_nil w 24 35 a n c 0 0 Tryz.underlying24
theorem nilLss (w : World) (a : Option Addr) (n c : Nat) : (binOp .eql 25 (.slice a n c) (.slice none 0 0)).run Tryz.prog w = .ok (.bool a.isNone) w := Lib.run_eql_slice_nil w 25 71 a n c 0 0 Tryz.underlying25

/-- A list of nodes whose row is the call's own; their blocks lie where they lay. -/
structure CloneN (base n : Nat) (ps : List NR) (e : Ending) (w' : World) : Prop where
  ex : ∃ a c g, e = .returned (.slice a n c) ∧ Cel (fun k => base ≤ k) w' 5 (.slice a n c) n (rowC ndC ps) g
structure CloneL (base n : Nat) (xs : LS) (e : Ending) (w' : World) : Prop where
  ex : ∃ a c g, e = .returned (.slice a n c) ∧ LO base w' a n c xs g

set_option maxRecDepth 100000 in
set_option maxHeartbeats 1000000 in
theorem cloneN_val {a : Option Addr} {b off n c : Nat} {ps : List NR} {w : World} (h : Nds w a b off ps) (hl : ps.length = n) (hc : a = none → c = 0) (hz : n * 64 ≤ 140737488355328) :
    Calls Tryz.prog 41 #[.slice a n c] w fun e w' => CloneN w.heap.size n ps e w' ∧ Below w.heap.size w w' := by
  obtain ⟨ti, hi1, hi2, hi3, hi4⟩ := ndRow
  have hnb := nilNds
  cases a with
  | none =>
    have hn0 : n = 0 := by
      rcases Nat.eq_zero_or_pos n with h0 | h0
      · exact h0
      · have := h.addr (by omega); cases this
    subst hn0
    have hc0 : c = 0 := hc rfl
    subst hc0
    have e : ps = [] := List.length_eq_zero_iff.1 hl
    subst e
    clear h hc hl
    go_enter Tryz.func41, Tryz.ntmps41
    go_wp2
    go_ret
    exact ⟨⟨none, 0, none, rfl, .nil rfl rfl rfl⟩, Below.refl _ _⟩
  | some ad =>
    have HS : Hid (∀ o, Src Tryz.prog 5 24 (.slice (some ad) n c) n (rowC ndC ps) (w.alloc o)) := fun o => by
      by_cases h0 : 0 < n
      · have e := h.addr (by omega)
        cases e
        exact src_nds (h.below (bel_al w o)) hl
      · obtain rfl : n = 0 := by omega
        have e : ps = [] := List.length_eq_zero_iff.1 hl
        subst e
        exact Src.ofSlice _ Tryz.underlying24 ad 0 _ [] (by simp) (fun j u hu => by simp at hu) (fun u hu => by cases hu)
    have hl2 : n ≤ 2199023255552 := by omega
    have HC0 : Hid (∀ t, Cel (fun k => w.heap.size ≤ k) (w.alloc (.cells #[] t)) 5 (.slice (some ⟨w.heap.size, 0, none⟩) 0 0) 0 [] (some w.heap.size)) := fun t =>
      .row w.heap.size 0 rfl (by simp) (Nat.le_refl _) (by simp) (Nat.le_refl _) (Nat.zero_le _) (fun j hj => by simp at hj) (fun j hj => by omega)
    clear h hl hc
    go_enter Tryz.func41, Tryz.ntmps41
    go_wp2_with (at_builtin; refine wpList_append_cel _ rfl _ _ 24 24 rfl 35 ti _ 5 64 Tryz.underlying24 hi1 hi2 hi3 hi4 rfl (O := fun k => w.heap.size ≤ k) _ 0 [] _ rfl (HC0.out _) _ n (rowC ndC ps) rfl (HS.out _) (by unfold maxLen; omega) (by omega) ?_; intro a2 cc2 w2 g2 hC2 hst2 hf2)
    have hC3 := grow_base (base := w.heap.size) (by simp) (fun k hk => hk) hC2
    rw [Nat.zero_add, List.nil_append] at hC3
    have HX : Hid (Cel (fun k => w.heap.size ≤ k) w2 5 (.slice a2 n cc2) n (rowC ndC ps) g2) := hC3
    have HB : Hid (Below w.heap.size w w2) := (bel_al w _).trans (hst2.below (by simp) (fun k hk => by cases hk; exact Nat.le_refl _))
    clear hC2 hC3 hst2 hf2
    go_ret
    exact ⟨⟨a2, cc2, g2, rfl, HX.out⟩, HB.out⟩

set_option maxRecDepth 100000 in
set_option maxHeartbeats 1000000 in
theorem cloneL_val {a : Option Addr} {n c : Nat} {xs : LS} {w : World} (h : LL w a n c xs) (hz : n * 16 ≤ 140737488355328) :
    Calls Tryz.prog 42 #[.slice a n c] w fun e w' => CloneL w.heap.size n xs e w' ∧ Below w.heap.size w w' := by
  obtain ⟨ti, hi1, hi2, hi3, hi4⟩ := lsRow
  have hnb := nilLss
  have hl := h.len
  cases a with
  | none =>
    have hn0 : n = 0 := by
      rcases Nat.eq_zero_or_pos n with h0 | h0
      · exact h0
      · obtain ⟨_, _, e, _⟩ := h.cells h0; cases e
    subst hn0
    have hc0 : c = 0 := h.nil rfl
    subst hc0
    have e : xs = [] := List.length_eq_zero_iff.1 hl
    subst e
    clear h hl
    go_enter Tryz.func42, Tryz.ntmps42
    go_wp2
    go_ret
    exact ⟨⟨none, 0, none, rfl, LO.none _ _⟩, Below.refl _ _⟩
  | some ad =>
    have HS : Hid (∀ o, Src Tryz.prog 2 25 (.slice (some ad) n c) n (rowC lsC xs) (w.alloc o)) := fun o => (h.below (bel_al w o)).src Tryz.underlying25
    have HL : Hid (xs.length = n) := hl
    have hl2 : n ≤ 8796093022208 := by omega
    have HC0 : Hid (∀ t, Cel (fun k => w.heap.size ≤ k) (w.alloc (.cells #[] t)) 2 (.slice (some ⟨w.heap.size, 0, none⟩) 0 0) 0 [] (some w.heap.size)) := fun t =>
      .row w.heap.size 0 rfl (by simp) (Nat.le_refl _) (by simp) (Nat.le_refl _) (Nat.zero_le _) (fun j hj => by simp at hj) (fun j hj => by omega)
    clear h hl
    go_enter Tryz.func42, Tryz.ntmps42
    go_wp2_with (at_builtin; refine wpList_append_cel _ rfl _ _ 25 25 rfl 71 ti _ 2 16 Tryz.underlying25 hi1 hi2 hi3 hi4 rfl (O := fun k => w.heap.size ≤ k) _ 0 [] _ rfl (HC0.out _) _ n (rowC lsC xs) rfl (HS.out _) (by unfold maxLen; omega) (by omega) ?_; intro a2 cc2 w2 g2 hC2 hst2 hf2)
    have hC3 := grow_base (base := w.heap.size) (by simp) (fun k hk => hk) hC2
    rw [Nat.zero_add, List.nil_append] at hC3
    have HX : Hid (LO w.heap.size w2 a2 n cc2 xs g2) := ⟨hC3, HL.out⟩
    have HB : Hid (Below w.heap.size w w2) := (bel_al w _).trans (hst2.below (by simp) (fun k hk => by cases hk; exact Nat.le_refl _))
    clear hC2 hC3 hst2 hf2
    go_ret
    exact ⟨⟨a2, cc2, g2, rfl, HX.out⟩, HB.out⟩

/-! ### a node is written into its place -/
theorem Cel.setNd {O : Nat → Prop} {w : World} {a : Option Addr} {n c g : Nat} {qs : List NR} (h : Cel O w 5 (.slice a n c) n (rowC ndC qs) (some g)) (hn : qs.length = n) (i : Nat) (hi : i < n) (y : NR) :
    Cel O (w.setCells g (i * 5) (ndC y)) 5 (.slice a n c) n (rowC ndC (qs.set i y)) (some g) := by
  have hc := h.cap2.1
  have h1 : (i + 1) * 5 ≤ c * 5 := Nat.mul_le_mul_right _ (by omega)
  have hl : (rowC ndC (qs.set i y)).length = n * 5 := by rw [rowC_len wideX, List.length_set, hn]
  have hw5 : (ndC y).length = 5 := rfl
  refine h.setCells (i * 5) (ndC y) (by rw [hw5]; omega) n _ hc hl (fun q hq => ?_)
  rw [← List.getElem?_eq_getElem hq]
  rw [hl] at hq
  have hd : q / 5 < n := by omega
  have e := rowC_at wideX (qs.set i y) (q / 5) (by rw [List.length_set]; omega) (q % 5) (by omega)
  have e' := rowC_at wideX qs (q / 5) (by omega) (q % 5) (by omega)
  have e2 : q / 5 * 5 + q % 5 = q := by omega
  rw [e2] at e e'
  rw [e, e', hw5]
  by_cases hqi : q / 5 = i
  · subst hqi
    rw [List.getElem_set_self, if_pos (by omega), show q - q / 5 * 5 = q % 5 by omega]
  · rw [if_neg (by omega), List.getElem_set_ne (fun e => hqi e.symm)]

end Go.Proofs.YticiihjkgiookaaGreat.Spa

/- The contract of space.copied. -/
namespace Go.Proofs.YticiihjkgiookaaGreat.Spa
open Go.RowKit Go.Proofs.YticiihjkgiookaaGreat
open Go.Proofs.YticiihjkgiookaaGreat.Lea (LS Ls findX putL renX LL LO LsR lsC wideL)

def ApartB (x y : NR) : Prop := ∀ k, x.2.blk = some k → y.2.blk ≠ some k
/-- What a space of the call's own is made of: nodes, each with blocks of its own, and leases. -/
structure Own (base : Nat) (w : World) (s : Sp) (N L : RS) (ps : List NR) (g gl : Option Nat) : Prop where
  lot : Lot base w N.a N.n N.c ps g
  map : ps.map (·.1) = s.ns
  lo : LO base w L.a L.n L.c s.ls gl
  sep : ps.Pairwise ApartB
  gl1 : ∀ k, g = some k → gl ≠ some k
  gl2 : ∀ x ∈ ps, ∀ k, x.2.blk = some k → gl ≠ some k
theorem Own.below {base : Nat} {w w' : World} {s : Sp} {N L : RS} {ps : List NR} {g gl : Option Nat} (h : Own base w s N L ps g gl) (hb : Below w.heap.size w w') : Own base w' s N L ps g gl :=
  ⟨h.lot.below hb, h.map, h.lo.below hb, h.sep, h.gl1, h.gl2⟩
theorem Own.mono {b1 b2 : Nat} {w : World} {s : Sp} {N L : RS} {ps : List NR} {g gl : Option Nat} (h : Own b1 w s N L ps g gl) (hb : b2 ≤ b1) : Own b2 w s N L ps g gl :=
  ⟨h.lot.mono hb, h.map, h.lo.mono hb, h.sep, h.gl1, h.gl2⟩

/-- Sizes that can be copied. -/
structure Sz (N L : RS) (ps : List NR) : Prop where
  n : N.n * 64 ≤ 140737488355328
  l : L.n * 16 ≤ 140737488355328
  b : ∀ x ∈ ps, x.2.n * 24 ≤ 140737488355328

/-- A slice of blocks has its room to itself. -/
structure Rm (w : World) (s : RS) : Prop where
  z : s.n = 0 → s.c = 0
  le : s.n ≤ s.c
  lid : s.c ≤ maxLen
  live : 0 < s.n → ∃ b, s.a = some ⟨b, 0, none⟩ ∧ ∀ j, j < s.c * 3 → (w.cell? ⟨b, j, none⟩).isSome = true ∧ w.frozen? ⟨b, j, none⟩ = false
theorem Rm.keep {w w' : World} {s : RS} (h : Rm w s) (hb : ∀ k, s.blk = some k → w'.heap[k]? = w.heap[k]?) : Rm w' s := by
  refine ⟨h.z, h.le, h.lid, fun hp => ?_⟩
  obtain ⟨b, ha, hc⟩ := h.live hp
  have e : w'.heap[b]? = w.heap[b]? := hb b (by unfold RS.blk; rw [if_neg (by omega), ha]; rfl)
  exact ⟨b, ha, fun j hj => ⟨by rw [World.cell?_of_block (a := ⟨b, j, none⟩) e]; exact (hc j hj).1, (World.frozen?_of_block (a := ⟨b, j, none⟩) e).trans (hc j hj).2⟩⟩
theorem Rm.lt {w : World} {s : RS} (h : Rm w s) : ∀ k, s.blk = some k → k < w.heap.size := by
  intro k hk
  unfold RS.blk at hk
  split at hk
  · cases hk
  · rename_i hn
    obtain ⟨b, ha, hc⟩ := h.live (by omega)
    rw [ha] at hk
    have e : b = k := by simpa using hk
    subst e
    obtain ⟨u, hu⟩ := Option.isSome_iff_exists.1 (hc 0 (by have := h.le; omega)).1
    exact World.block_lt_of_cell? _ _ hu
theorem Rm.below {w w' : World} {s : RS} (h : Rm w s) (hb : Below w.heap.size w w') : Rm w' s := h.keep fun k hk => hb.block k (h.lt k hk)
theorem Rm.set {w : World} {s : RS} (h : Rm w s) (a : Addr) (v : Value) : Rm (w.setCell a v) s := by
  refine ⟨h.z, h.le, h.lid, fun hp => ?_⟩
  obtain ⟨b, ha, hc⟩ := h.live hp
  refine ⟨b, ha, fun j hj => ⟨?_, by rw [World.frozen?_setCell]; exact (hc j hj).2⟩⟩
  obtain ⟨u, hu⟩ := Option.isSome_iff_exists.1 (hc j hj).1
  by_cases e : a = ⟨b, j, none⟩
  · subst e
    rw [World.cell?_setCell_same _ _ _ hu]; rfl
  · rw [World.cell?_setCell_other _ _ _ _ e, hu]; rfl

structure Clone2R (base n : Nat) (bs : List Blk) (e : Ending) (w' : World) : Prop where
  ex : ∃ a c g, e = .returned (.slice a n c) ∧ Cel (fun k => base ≤ k) w' 3 (.slice a n c) n (rowC blkC bs) g ∧ (n = 0 → c = 0)
structure Copy2R (base : Nat) (x : Nd) (e : Ending) (w' : World) : Prop where
  ex : ∃ s, e = .returned (ndV (x, s)) ∧ Free base w' (x, s) ∧ Rm w' s

set_option maxRecDepth 100000 in
set_option maxHeartbeats 1000000 in
theorem clone2_val (s : RS) (bs : List Blk) (w : World) (h : Blks w s bs) (hz : s.n * 24 ≤ 140737488355328) :
    Calls Tryz.prog 74 #[.slice s.a s.n s.c] w fun e w' => Clone2R w.heap.size s.n bs e w' ∧ Below w.heap.size w w' := by
  obtain ⟨a, n, c⟩ := s
  rcases Nat.eq_zero_or_pos n with h0 | h0
  · subst h0
    have e : bs = [] := List.length_eq_zero_iff.1 h.len
    subst e
    have hnb := nilBlks
    cases a with
    | none =>
      have hc0 : c = 0 := h.nil rfl
      subst hc0
      clear h hz
      go_enter Tryz.func74, Tryz.ntmps74
      go_wp2
      go_ret
      exact ⟨⟨none, 0, none, rfl, .nil rfl rfl rfl, fun _ => rfl⟩, Below.refl _ _⟩
    | some ad =>
      obtain ⟨ti, hi1, hi2, hi3, hi4⟩ := blkRow
      have hap : ∀ (W : World) (b : Nat), (Builtin.append_ #[33, 33] 33 #[.slice (some ⟨b, 0, none⟩) 0 0, .slice (some ad) 0 c]).run Tryz.prog W = .ok (.slice (some ⟨b, 0, none⟩) 0 0) W := fun W b =>
        run_append_nothing (P := Tryz.prog) W 33 33 33 31 ti Tryz.underlying33 hi1 (some ⟨b, 0, none⟩) 0 0 (Nat.le_refl _) (.slice (some ad) 0 c) (by rw [hi3]; exact Src.ofSlice W Tryz.underlying33 ad 0 c [] (by simp) (fun j u hu => by simp at hu) (fun u hu => by cases hu))
      clear h hz
      go_enter Tryz.func74, Tryz.ntmps74
      go_wp2
      go_ret
      exact ⟨⟨some ⟨w.heap.size, 0, none⟩, 0, some w.heap.size, rfl, .row w.heap.size 0 rfl (by simp [rowC]) (Nat.le_refl _) (by simp) (Nat.le_refl _) (Nat.zero_le _) (fun j hj => by simp [rowC] at hj) (fun j hj => by omega), fun _ => rfl⟩, bel_al _ _⟩
  · refine (clone_val ⟨a, n, c⟩ bs w h hz).mono fun e w' ⟨⟨a2, c2, g, h1, h2⟩, h3⟩ => ⟨⟨a2, c2, g, h1, h2, fun e => ?_⟩, h3⟩
    have e' : n = 0 := e
    omega
theorem rm_of_cel {base : Nat} {w : World} {a : Option Addr} {n c : Nat} {bs : List Blk} {g : Option Nat} (h : Cel (fun k => base ≤ k) w 3 (.slice a n c) n (rowC blkC bs) g) (h0 : n = 0 → c = 0) : Rm w ⟨a, n, c⟩ := by
  obtain ⟨hc1, hc2, _⟩ := h.cap2
  refine ⟨h0, hc1, hc2, fun hp => ?_⟩
  obtain ⟨b, h1, h2⟩ := h.at2 hp
  subst h2
  exact ⟨b, h1, fun j hj => h.live j hj⟩

set_option maxRecDepth 100000 in
set_option maxHeartbeats 1000000 in
theorem copied2_val (x : NR) (w : World) (h : NdOk w x) (hz : x.2.n * 24 ≤ 140737488355328) :
    Calls Tryz.prog 31 #[ndV x] w fun e w' => Copy2R w.heap.size x.1 e w' ∧ Below w.heap.size w w' := by
  have CC : Hid (∀ W, Below w.heap.size w W → Calls Tryz.prog 74 #[.slice x.2.a x.2.n x.2.c] W fun e w' => ∃ a c, e = .returned (.slice a x.2.n c) ∧ (Free W.heap.size w' (x.1, ⟨a, x.2.n, c⟩) ∧ Rm w' ⟨a, x.2.n, c⟩) ∧ Below W.heap.size W w') := fun W hb =>
    (clone2_val x.2 x.1.bs W (h.bs.below hb) hz).mono fun e w' ⟨⟨a, c, g, h1, h2, h4⟩, h3⟩ => ⟨a, c, h1, ⟨free_of_cel h2 h.bs.len rfl h.small, rm_of_cel h2 h4⟩, h3⟩
  obtain ⟨⟨p, d, q, bs, wr⟩, ⟨a, n, c⟩⟩ := x
  have hst := run_store_str
  have hst2 : ∀ (w : World) (a : Addr) (x : Option Addr) (n c : Nat) (m : Mode), (store a (.slice x n c) m).run Tryz.prog w = stored Tryz.prog w a (.slice x n c) m := fun w a x n c m => run_store_any w a _ m rfl
  unfold ndV
  simp only at CC
  clear h hz
  go_enter Tryz.func31, Tryz.ntmps31
  go_wp2_with fail
  refine (CC.out _ (bel_tr (bel_al _ _) (bel_al _ _))).mono ?_
  rintro e w2 ⟨a2, c2, rfl, ⟨hF, hRm⟩, hb2⟩
  have HRM : Hid (Rm w2 ⟨a2, n, c2⟩) := hRm
  clear hRm
  obtain ⟨q1, q2, q3, q4, q5, q6⟩ := two_boxes hb2
  have y0 := q1 0 _ rfl
  have y1 := q1 1 _ rfl
  have y2 := q1 2 _ rfl
  have y3 := q1 3 _ rfl
  have y4 := q1 4 _ rfl
  have z0 := q3 0 _ rfl
  have z1 := q3 1 _ rfl
  have z2 := q3 2 _ rfl
  have z3 := q3 3 _ rfl
  have z4 := q3 4 _ rfl
  have HF : Hid (Free (w.heap.size + 2) w2 (⟨p, d, q, bs, wr⟩, ⟨a2, n, c2⟩)) := by
    have := hF
    simp at this
    exact this
  have hb3 : Hid (Below w.heap.size w w2) := q5
  have HZ : Hid (w.heap.size + 2 ≤ w2.heap.size) := q6
  have yy0 := q2 0
  have yy1 := q2 1
  have yy2 := q2 2
  have yy3 := q2 3
  have yy4 := q2 4
  have zz0 := q4 0
  have zz1 := q4 1
  have zz2 := q4 2
  have zz3 := q4 3
  have zz4 := q4 4
  have o0 : ∀ j v, (w2.setCell ⟨w.heap.size, 3, none⟩ v).cell? ⟨w.heap.size + 1, j, none⟩ = w2.cell? ⟨w.heap.size + 1, j, none⟩ := fun j v => other_block _ _ _ _ _ _ (by omega)
  have HX : Hid (∀ v v0 v1 v2 v3 v4, Free w.heap.size ((((((w2.setCell ⟨w.heap.size, 3, none⟩ v).setCell ⟨w.heap.size + 1, 0, none⟩ v0).setCell ⟨w.heap.size + 1, 1, none⟩ v1).setCell ⟨w.heap.size + 1, 2, none⟩ v2).setCell ⟨w.heap.size + 1, 3, none⟩ v3).setCell ⟨w.heap.size + 1, 4, none⟩ v4) (⟨p, d, q, bs, wr⟩, ⟨a2, n, c2⟩) ∧ Below w.heap.size w ((((((w2.setCell ⟨w.heap.size, 3, none⟩ v).setCell ⟨w.heap.size + 1, 0, none⟩ v0).setCell ⟨w.heap.size + 1, 1, none⟩ v1).setCell ⟨w.heap.size + 1, 2, none⟩ v2).setCell ⟨w.heap.size + 1, 3, none⟩ v3).setCell ⟨w.heap.size + 1, 4, none⟩ v4)) := fun v v0 v1 v2 v3 v4 => by
    have st : Stay (fun k => k = w.heap.size ∨ k = w.heap.size + 1) w2 _ := (Stay.setCell (O := fun k => k = w.heap.size ∨ k = w.heap.size + 1) w2 ⟨w.heap.size, 3, none⟩ v (.inl rfl)).then_same (Stay.five _ (w.heap.size + 1) v0 v1 v2 v3 v4 (.inr rfl))
    refine ⟨(Stay.free HF.out st (fun k hk e => ?_)).mono (by omega), q5.trans (st.below (by omega) (fun k hk => by omega))⟩
    have := HF.out.blk_ge k hk
    omega
  have K0 := (five (X := w2.setCell ⟨w.heap.size, 3, none⟩ (.slice a2 n c2)) (R := w.heap.size + 1) ((o0 0 _).trans z0) ((o0 1 _).trans z1) ((o0 2 _).trans z2) ((o0 3 _).trans z3) ((o0 4 _).trans z4) (.string p) (.bool d) (.int .i64 q) (.slice a2 n c2) (.int .i64 wr))
  have HK : Hid _ := K0
  clear K0 hF hb2 q1 q2 q3 q4 q5 q6 CC o0 HF
  generalize hRR : w.heap.size = R at *
  have HRR : Hid (w.heap.size = R) := hRR
  clear hRR
  go_wp2
  obtain ⟨k0, k1, k2, k3, k4⟩ := HK.out
  exact bodyPost_ret (v := ndV (⟨p, d, q, bs, wr⟩, ⟨a2, n, c2⟩)) (by simp [results, ndV, Tryz.results31, go_sem, k0, k1, k2, k3, k4]) rfl (by rw [HRR.out]; exact ⟨⟨⟨a2, n, c2⟩, rfl, (HX.out _ _ _ _ _ _).1, (((((HRM.out.set _ _).set _ _).set _ _).set _ _).set _ _).set _ _⟩, (HX.out _ _ _ _ _ _).2⟩)

structure CopiedR (base : Nat) (s : Sp) (e : Ending) (w' : World) : Prop where
  ex : ∃ N L ps g gl, e = .returned (spV s N L) ∧ Own base w' s N L ps g gl ∧ (∀ x ∈ ps, Rm w' x.2) ∧ (N.a = none → N.c = 0)

/-- What lies behind base is left alone while what lies ahead of it is written. -/
theorem Own.out {base : Nat} {O : Nat → Prop} {w w' : World} {s : Sp} {N L : RS} {ps : List NR} {g gl : Option Nat} (h : Own base w s N L ps g gl) (hs : Stay O w w') (hO : ∀ k, O k → k < base) : Own base w' s N L ps g gl := by
  have hg : ∀ k, g = some k → k < w.heap.size ∧ base ≤ k := fun k hk => by have := h.lot.cel; rw [hk] at this; exact this.lt
  refine ⟨h.lot.stay hs.size (fun k hk => hs.block k (hg k hk).1 (fun e => ?_)) (fun x hx k hk => hs.block k ((h.lot.ok x hx).ok.bs.lt k hk) (fun e => ?_)), h.map, ?_, h.sep, h.gl1, h.gl2⟩
  · have := hO k e; have := (hg k hk).2; omega
  · have := hO k e; have := (h.lot.ok x hx).blk_ge k hk; omega
  · have ho := h.lo.own
    exact ⟨h.lo.cel.stay hs.size (fun k hk => hs.block k (ho k hk).1 (fun e => by have := hO k e; have := (ho k hk).2; omega)) (fun _ e => e), h.lo.len⟩

/-- The world behind the storing of a whole space. -/
def put6 (w : World) (b : Nat) (s : Sp) (N L : RS) : World :=
  (((((w.setCell ⟨b, 0, none⟩ (.int .i64 s.tx)).setCell ⟨b, 1, none⟩ (.int .i64 s.nb)).setCell ⟨b, 2, none⟩ (.int .i64 s.ng)).setCell ⟨b, 3, none⟩ (.int .i64 s.now)).setCell ⟨b, 4, none⟩ (.slice N.a N.n N.c)).setCell ⟨b, 5, none⟩ (.slice L.a L.n L.c)
/-- The cells of a space. -/
structure SpC (w : World) (b : Nat) (s : Sp) (N L : RS) : Prop where
  c0 : w.cell? ⟨b, 0, none⟩ = some (.int .i64 s.tx)
  c1 : w.cell? ⟨b, 1, none⟩ = some (.int .i64 s.nb)
  c2 : w.cell? ⟨b, 2, none⟩ = some (.int .i64 s.ng)
  c3 : w.cell? ⟨b, 3, none⟩ = some (.int .i64 s.now)
  c4 : w.cell? ⟨b, 4, none⟩ = some (.slice N.a N.n N.c)
  c5 : w.cell? ⟨b, 5, none⟩ = some (.slice L.a L.n L.c)
  fr : ∀ j, w.frozen? ⟨b, j, none⟩ = false
theorem SpC.below {w w' : World} {b : Nat} {s : Sp} {N L : RS} (h : SpC w b s N L) (hb : Below w.heap.size w w') : SpC w' b s N L :=
  ⟨bel_cell hb h.c0, bel_cell hb h.c1, bel_cell hb h.c2, bel_cell hb h.c3, bel_cell hb h.c4, bel_cell hb h.c5, fun j => (World.frozen?_of_block (a := ⟨b, j, none⟩) (hb.block b (World.block_lt_of_cell? _ _ h.c0))).trans (h.fr j)⟩
theorem SpC.keep {O : Nat → Prop} {w w' : World} {b : Nat} {s : Sp} {N L : RS} (h : SpC w b s N L) (hs : Stay O w w') (hO : ¬ O b) : SpC w' b s N L := by
  have hb := hs.block b (World.block_lt_of_cell? _ _ h.c0) hO
  exact ⟨(World.cell?_of_block (a := ⟨b, 0, none⟩) hb).trans h.c0, (World.cell?_of_block (a := ⟨b, 1, none⟩) hb).trans h.c1, (World.cell?_of_block (a := ⟨b, 2, none⟩) hb).trans h.c2, (World.cell?_of_block (a := ⟨b, 3, none⟩) hb).trans h.c3, (World.cell?_of_block (a := ⟨b, 4, none⟩) hb).trans h.c4, (World.cell?_of_block (a := ⟨b, 5, none⟩) hb).trans h.c5, fun j => (World.frozen?_of_block (a := ⟨b, j, none⟩) hb).trans (h.fr j)⟩
theorem SpC.new (w : World) (t : TypeId) (s : Sp) (N L : RS) : SpC (w.alloc (.cells #[.int .i64 s.tx, .int .i64 s.nb, .int .i64 s.ng, .int .i64 s.now, .slice N.a N.n N.c, .slice L.a L.n L.c] t)) w.heap.size s N L :=
  ⟨World.cell?_alloc_new w _ t 0, World.cell?_alloc_new w _ t 1, World.cell?_alloc_new w _ t 2, World.cell?_alloc_new w _ t 3, World.cell?_alloc_new w _ t 4, World.cell?_alloc_new w _ t 5, fun j => World.frozen?_alloc_new w _ t j⟩
theorem same_cell {w : World} {a : Addr} {v u : Value} (h : w.cell? a = some u) : (w.setCell a v).cell? a = some v := World.cell?_setCell_same _ _ _ h
theorem put6_at {w : World} {b : Nat} {s0 : Sp} {N0 L0 : RS} (h : SpC w b s0 N0 L0) (s : Sp) (N L : RS) : SpC (put6 w b s N L) b s N L ∧ Stay (fun k => k = b) w (put6 w b s N L) := by
  constructor
  · unfold put6
    refine ⟨?_, ?_, ?_, ?_, ?_, ?_, fun j => by simp only [World.frozen?_setCell]; exact h.fr j⟩
    · rw [other_cell _ _ _ _ _ (by omega), other_cell _ _ _ _ _ (by omega), other_cell _ _ _ _ _ (by omega), other_cell _ _ _ _ _ (by omega), other_cell _ _ _ _ _ (by omega)]
      exact same_cell h.c0
    · rw [other_cell _ _ _ _ _ (by omega), other_cell _ _ _ _ _ (by omega), other_cell _ _ _ _ _ (by omega), other_cell _ _ _ _ _ (by omega)]
      refine same_cell (u := .int .i64 s0.nb) ?_
      rw [other_cell _ _ _ _ _ (by omega)]
      exact h.c1
    · rw [other_cell _ _ _ _ _ (by omega), other_cell _ _ _ _ _ (by omega), other_cell _ _ _ _ _ (by omega)]
      refine same_cell (u := .int .i64 s0.ng) ?_
      rw [other_cell _ _ _ _ _ (by omega), other_cell _ _ _ _ _ (by omega)]
      exact h.c2
    · rw [other_cell _ _ _ _ _ (by omega), other_cell _ _ _ _ _ (by omega)]
      refine same_cell (u := .int .i64 s0.now) ?_
      rw [other_cell _ _ _ _ _ (by omega), other_cell _ _ _ _ _ (by omega), other_cell _ _ _ _ _ (by omega)]
      exact h.c3
    · rw [other_cell _ _ _ _ _ (by omega)]
      refine same_cell (u := .slice N0.a N0.n N0.c) ?_
      rw [other_cell _ _ _ _ _ (by omega), other_cell _ _ _ _ _ (by omega), other_cell _ _ _ _ _ (by omega), other_cell _ _ _ _ _ (by omega)]
      exact h.c4
    · refine same_cell (u := .slice L0.a L0.n L0.c) ?_
      rw [other_cell _ _ _ _ _ (by omega), other_cell _ _ _ _ _ (by omega), other_cell _ _ _ _ _ (by omega), other_cell _ _ _ _ _ (by omega), other_cell _ _ _ _ _ (by omega)]
      exact h.c5
  · unfold put6
    exact (((((Stay.setCell (O := fun k => k = b) w _ _ rfl).then_same (Stay.setCell _ _ _ rfl)).then_same (Stay.setCell _ _ _ rfl)).then_same (Stay.setCell _ _ _ rfl)).then_same (Stay.setCell _ _ _ rfl)).then_same (Stay.setCell _ _ _ rfl)

/-- Halfway: the first i nodes are copied. -/
structure Half (base : Nat) (w : World) (a : Option Addr) (n c : Nat) (ps qs : List NR) (g : Option Nat) (i : Nat) : Prop where
  cel : Cel (fun k => base ≤ k) w 5 (.slice a n c) n (rowC ndC (qs ++ ps.drop i)) g
  len : qs.length = i
  map : qs.map (·.1) = (ps.take i).map (·.1)
  free : ∀ x ∈ qs, Free base w x
  ap : ∀ x ∈ qs, ∀ k, g = some k → x.2.blk ≠ some k
  sep : qs.Pairwise ApartB
  rm : ∀ x ∈ qs, Rm w x.2

theorem Half.next {base : Nat} {wr w1 : World} {gb n c : Nat} {ps qs : List NR} {i : Nat} (h : Half base wr (some ⟨gb, 0, none⟩) n c ps qs (some gb) i) (hp : ps.length = n) (hi : i < n) (hB : base ≤ wr.heap.size) (b1 : Below wr.heap.size wr w1) {s : RS} (hF : Free wr.heap.size w1 ((ps[i]'(by omega)).1, s)) (hRm : Rm w1 s) :
    Half base (w1.setCells gb (i * 5) (ndC ((ps[i]'(by omega)).1, s))) (some ⟨gb, 0, none⟩) n c ps (qs ++ [((ps[i]'(by omega)).1, s)]) (some gb) (i + 1) ∧ Below base wr (w1.setCells gb (i * 5) (ndC ((ps[i]'(by omega)).1, s))) := by
  have hgb := h.cel.lt
  have hst : Stay (fun k => k = gb) w1 (w1.setCells gb (i * 5) (ndC ((ps[i]'(by omega)).1, s))) := Stay.setCells gb _ _ w1 rfl
  have hlt : ∀ k, s.blk = some k → wr.heap.size ≤ k := fun k hk => hF.blk_ge k hk
  refine ⟨⟨?_, by rw [List.length_append, h.len]; rfl, ?_, fun x hx => ?_, fun x hx k hk => ?_, ?_, fun x hx => ?_⟩, ?_⟩
  · have hc := Cel.setNd (h.cel.below b1) (by rw [List.length_append, h.len, List.length_drop]; omega) i hi ((ps[i]'(by omega)).1, s)
    have e : (qs ++ ps.drop i).set i ((ps[i]'(by omega)).1, s) = qs ++ [((ps[i]'(by omega)).1, s)] ++ ps.drop (i + 1) := by
      rw [List.set_append_right _ _ (by rw [h.len]; omega), h.len, Nat.sub_self, List.drop_eq_getElem_cons (by omega), List.set_cons_zero]
      simp
    rw [e] at hc
    exact hc
  · rw [List.map_append, h.map, List.take_succ_eq_append_getElem (by omega), List.map_append]; rfl
  · rcases List.mem_append.1 hx with hx | hx
    · have hx1 := (h.free x hx).below b1
      refine Stay.free hx1 hst (fun k hk e => ?_)
      subst e
      exact h.ap x hx k rfl hk
    · rw [List.mem_singleton.1 hx]
      refine Stay.free (hF.mono hB) hst (fun k hk e => ?_)
      have := hlt k hk
      have := hgb.1
      omega
  · cases hk
    rcases List.mem_append.1 hx with hx | hx
    · exact h.ap x hx gb rfl
    · rw [List.mem_singleton.1 hx]
      intro e
      have := hlt gb e
      have := hgb.1
      omega
  · rw [List.pairwise_append]
    refine ⟨h.sep, List.pairwise_singleton _ _, fun x hx y hy k hk e => ?_⟩
    rw [List.mem_singleton.1 hy] at e
    have := hlt k e
    have := (h.free x hx).ok.bs.lt k hk
    omega
  · rcases List.mem_append.1 hx with hx | hx
    · refine ((h.rm x hx).below b1).keep fun k hk => hst.block k (((h.rm x hx).below b1).lt k hk) (fun e => ?_)
      subst e
      exact h.ap x hx k rfl hk
    · rw [List.mem_singleton.1 hx]
      refine hRm.keep fun k hk => hst.block k (hRm.lt k hk) (fun e => ?_)
      have := hlt k hk
      have := hgb.1
      omega
  · exact (b1.mono hB).trans (hst.below (Nat.le_trans hB b1.size) (fun k hk => by subst hk; exact hgb.2))

set_option maxRecDepth 100000 in
set_option maxHeartbeats 4000000 in
theorem copied_space {s : Sp} {N L : RS} {w : World} {b off : Nat} {ps : List NR} (hn : Nds w N.a b off ps) (hm : ps.map (·.1) = s.ns) (hl : ps.length = N.n) (hc : N.a = none → N.c = 0) (hL : LL w L.a L.n L.c s.ls) (hz : Sz N L ps) :
    Calls Tryz.prog 21 #[spV s N L] w fun e w' => CopiedR w.heap.size s e w' ∧ Below w.heap.size w w' := by
  have CN : Hid (∀ W, Below w.heap.size w W → Calls Tryz.prog 41 #[.slice N.a N.n N.c] W fun e w' => CloneN W.heap.size N.n ps e w' ∧ Below W.heap.size W w') := fun W hb => cloneN_val (hn.below hb) hl hc hz.n
  have CL : Hid (∀ W, Below w.heap.size w W → Calls Tryz.prog 42 #[.slice L.a L.n L.c] W fun e w' => CloneL W.heap.size L.n s.ls e w' ∧ Below W.heap.size W w') := fun W hb => cloneL_val (hL.below hb) hz.l
  have CC : Hid (∀ W i (hi : i < ps.length), Below w.heap.size w W → Calls Tryz.prog 31 #[ndV ps[i]] W fun e w' => Copy2R W.heap.size ps[i].1 e w' ∧ Below W.heap.size W w') := fun W i hi hb => copied2_val ps[i] W ((hn.below hb).ok _ (List.getElem_mem hi)) (hz.b _ (List.getElem_mem hi))
  have HM : Hid (ps.map (·.1) = s.ns) := hm
  have HP : Hid (ps.length = N.n) := hl
  have hN := hz.n
  clear hn hm hl hc hL hz
  obtain ⟨tx, nb, ng, now, ns, ls⟩ := s
  obtain ⟨na, nn, nc⟩ := N
  obtain ⟨la, ln, lc⟩ := L
  unfold spV
  simp only at CN CL HM HP hN ⊢
  have hst := run_store_str
  have hst2 : ∀ (w : World) (a : Addr) (x : Option Addr) (n c : Nat) (m : Mode), (store a (.slice x n c) m).run Tryz.prog w = stored Tryz.prog w a (.slice x n c) m := fun w a x n c m => run_store_any w a _ m rfl
  go_enter Tryz.func21, Tryz.ntmps21
  go_wp2_with (go_at_call 41; refine (CN.out _ (bel_tr (bel_al _ _) (bel_al _ _))).mono ?_; rintro e w1 ⟨⟨ca, cc, g, rfl, hC⟩, c1⟩; obtain ⟨q1, q2, q3, q4, q5, q6⟩ := two_boxes c1; have y0 := q1 0 _ rfl; have y1 := q1 1 _ rfl; have y2 := q1 2 _ rfl; have y3 := q1 3 _ rfl; have y4 := q1 4 _ rfl; have y5 := q1 5 _ rfl; have z0 := q3 0 _ rfl; have z1 := q3 1 _ rfl; have z2 := q3 2 _ rfl; have z3 := q3 3 _ rfl; have z4 := q3 4 _ rfl; have z5 := q3 5 _ rfl)
  have hW2 : ∀ k, ((w.alloc (.cells #[.int .i64 tx, .int .i64 nb, .int .i64 ng, .int .i64 now, .slice na nn nc, .slice la ln lc] 27)).alloc (.cells #[.int .i64 0, .int .i64 0, .int .i64 0, .int .i64 0, .slice none 0 0, .slice none 0 0] 27)).heap.size ≤ k → w.heap.size + 2 ≤ k := fun k hk => by simpa using hk
  have hC2 : Cel (fun k => w.heap.size + 2 ≤ k) w1 5 (.slice ca nn cc) nn (rowC ndC ps) g := hC.stay (Nat.le_refl _) (fun _ _ => rfl) hW2
  have hgB : g ≠ some w.heap.size := fun e => by
    rw [e] at hC2
    have := hC2.lt.2
    omega
  have H0 : Hid (Half (w.heap.size + 2) (w1.setCell ⟨w.heap.size, 4, none⟩ (.slice ca nn cc)) ca nn cc ps [] g 0) := ⟨by rw [List.nil_append, List.drop_zero]; exact hC2.setOut ⟨w.heap.size, 4, none⟩ _ hgB, rfl, rfl, fun x hx => (by cases hx), fun x hx => (by cases hx), List.Pairwise.nil, fun x hx => (by cases hx)⟩
  have k0 : (w1.setCell ⟨w.heap.size, 4, none⟩ (.slice ca nn cc)).cell? ⟨w.heap.size, 0, none⟩ = some (.int .i64 tx) := (other_cell _ _ _ _ _ (by omega)).trans y0
  have k1 : (w1.setCell ⟨w.heap.size, 4, none⟩ (.slice ca nn cc)).cell? ⟨w.heap.size, 1, none⟩ = some (.int .i64 nb) := (other_cell _ _ _ _ _ (by omega)).trans y1
  have k2 : (w1.setCell ⟨w.heap.size, 4, none⟩ (.slice ca nn cc)).cell? ⟨w.heap.size, 2, none⟩ = some (.int .i64 ng) := (other_cell _ _ _ _ _ (by omega)).trans y2
  have k3 : (w1.setCell ⟨w.heap.size, 4, none⟩ (.slice ca nn cc)).cell? ⟨w.heap.size, 3, none⟩ = some (.int .i64 now) := (other_cell _ _ _ _ _ (by omega)).trans y3
  have k4 : (w1.setCell ⟨w.heap.size, 4, none⟩ (.slice ca nn cc)).cell? ⟨w.heap.size, 4, none⟩ = some (.slice ca nn cc) := World.cell?_setCell_same _ _ _ y4
  have k5 : (w1.setCell ⟨w.heap.size, 4, none⟩ (.slice ca nn cc)).cell? ⟨w.heap.size, 5, none⟩ = some (.slice la ln lc) := (other_cell _ _ _ _ _ (by omega)).trans y5
  have m0 : (w1.setCell ⟨w.heap.size, 4, none⟩ (.slice ca nn cc)).cell? ⟨w.heap.size + 1, 0, none⟩ = some (.int .i64 0) := (other_block _ _ _ _ _ _ (by omega)).trans z0
  have m1 : (w1.setCell ⟨w.heap.size, 4, none⟩ (.slice ca nn cc)).cell? ⟨w.heap.size + 1, 1, none⟩ = some (.int .i64 0) := (other_block _ _ _ _ _ _ (by omega)).trans z1
  have m2 : (w1.setCell ⟨w.heap.size, 4, none⟩ (.slice ca nn cc)).cell? ⟨w.heap.size + 1, 2, none⟩ = some (.int .i64 0) := (other_block _ _ _ _ _ _ (by omega)).trans z2
  have m3 : (w1.setCell ⟨w.heap.size, 4, none⟩ (.slice ca nn cc)).cell? ⟨w.heap.size + 1, 3, none⟩ = some (.int .i64 0) := (other_block _ _ _ _ _ _ (by omega)).trans z3
  have m4 : (w1.setCell ⟨w.heap.size, 4, none⟩ (.slice ca nn cc)).cell? ⟨w.heap.size + 1, 4, none⟩ = some (.slice none 0 0) := (other_block _ _ _ _ _ _ (by omega)).trans z4
  have m5 : (w1.setCell ⟨w.heap.size, 4, none⟩ (.slice ca nn cc)).cell? ⟨w.heap.size + 1, 5, none⟩ = some (.slice none 0 0) := (other_block _ _ _ _ _ _ (by omega)).trans z5
  have hf0 : ∀ j, (w1.setCell ⟨w.heap.size, 4, none⟩ (.slice ca nn cc)).frozen? ⟨w.heap.size, j, none⟩ = false := fun j => by rw [World.frozen?_setCell]; exact q2 j
  have hf1 : ∀ j, (w1.setCell ⟨w.heap.size, 4, none⟩ (.slice ca nn cc)).frozen? ⟨w.heap.size + 1, j, none⟩ = false := fun j => by rw [World.frozen?_setCell]; exact q4 j
  have BW1 : Hid (Below w.heap.size w (w1.setCell ⟨w.heap.size, 4, none⟩ (.slice ca nn cc))) := q5.setCell (Nat.le_refl _) _
  have hs1 : w.heap.size + 2 ≤ (w1.setCell ⟨w.heap.size, 4, none⟩ (.slice ca nn cc)).heap.size := by simpa [World.setCell] using q6
  clear hW2 hC2 hgB hC c1 q1 q2 q3 q4 q5 q6 y0 y1 y2 y3 y4 y5 z0 z1 z2 z3 z4 z5 CN
  generalize w1.setCell ⟨w.heap.size, 4, none⟩ (.slice ca nn cc) = W1 at *
  have HK : Hid (W1.cell? ⟨w.heap.size, 0, none⟩ = some (.int .i64 tx) ∧ W1.cell? ⟨w.heap.size, 1, none⟩ = some (.int .i64 nb) ∧ W1.cell? ⟨w.heap.size, 2, none⟩ = some (.int .i64 ng) ∧ W1.cell? ⟨w.heap.size, 3, none⟩ = some (.int .i64 now) ∧ W1.cell? ⟨w.heap.size, 4, none⟩ = some (.slice ca nn cc) ∧ W1.cell? ⟨w.heap.size, 5, none⟩ = some (.slice la ln lc)) := ⟨k0, k1, k2, k3, k4, k5⟩
  have HMM : Hid (W1.cell? ⟨w.heap.size + 1, 0, none⟩ = some (.int .i64 0) ∧ W1.cell? ⟨w.heap.size + 1, 1, none⟩ = some (.int .i64 0) ∧ W1.cell? ⟨w.heap.size + 1, 2, none⟩ = some (.int .i64 0) ∧ W1.cell? ⟨w.heap.size + 1, 3, none⟩ = some (.int .i64 0) ∧ W1.cell? ⟨w.heap.size + 1, 4, none⟩ = some (.slice none 0 0) ∧ W1.cell? ⟨w.heap.size + 1, 5, none⟩ = some (.slice none 0 0)) := ⟨m0, m1, m2, m3, m4, m5⟩
  have HFZ : Hid ((∀ j, W1.frozen? ⟨w.heap.size, j, none⟩ = false) ∧ (∀ j, W1.frozen? ⟨w.heap.size + 1, j, none⟩ = false)) := ⟨hf0, hf1⟩
  have HS1 : Hid (w.heap.size + 2 ≤ W1.heap.size) := hs1
  have hnn : nn ≤ 2199023255552 := by omega
  clear k0 k1 k2 k3 k4 k5 m0 m1 m2 m3 m4 m5 hf0 hf1 hs1
  go_loopw [3, 4, 12] (fun _ _ v12 wr => ∃ (i : Nat) (qs : List NR), i ≤ nn ∧ v12 = .int .i64 i ∧ Half (w.heap.size + 2) wr ca nn cc ps qs g i ∧ Below (w.heap.size + 2) W1 wr) (fun _ _ v12 _ => nn - (intOf v12).toNat)
  case atStart => exact ⟨0, [], by omega, rfl, H0.out, Below.refl _ _⟩
  case round =>
    obtain ⟨i, qs, hi, rfl, hH, hb⟩ := hrel
    have HH : Hid (Half (w.heap.size + 2) wr ca nn cc ps qs g i) := hH
    have HB : Hid (Below (w.heap.size + 2) W1 wr) := hb
    have BR : Hid (Below w.heap.size w wr) := BW1.out.trans (hb.mono (by omega))
    by_cases hlt : i < nn
    · have hip : i < ps.length := by rw [HP.out]; exact hlt
      obtain ⟨gb, rfl, rfl⟩ := hH.cel.at2 (by omega)
      have hle : (qs ++ ps.drop i).length = nn := by rw [List.length_append, hH.len, List.length_drop, HP.out]; omega
      have hcap := hH.cel.cap2.1
      obtain ⟨b', e1, e2, e3⟩ := hH.cel.elem wideX (i := i) (by rw [hle]; exact hlt) hle
      cases e1
      have egt : (qs ++ ps.drop i)[i]'(by rw [hle]; exact hlt) = ps[i] := by
        rw [List.getElem_append_right (by rw [hH.len]; omega)]
        simp [hH.len]
      rw [egt] at e3
      have r0 : wr.cell? ⟨gb, i * 5, none⟩ = some (.string ps[i].1.path) := e3 0 _ rfl
      have r1 : wr.cell? ⟨gb, i * 5 + 1, none⟩ = some (.bool ps[i].1.dir) := e3 1 _ rfl
      have r2 : wr.cell? ⟨gb, i * 5 + 2, none⟩ = some (.int .i64 ps[i].1.quota) := e3 2 _ rfl
      have r3 : wr.cell? ⟨gb, i * 5 + 3, none⟩ = some (.slice ps[i].2.a ps[i].2.n ps[i].2.c) := e3 3 _ rfl
      have r4 : wr.cell? ⟨gb, i * 5 + 4, none⟩ = some (.int .i64 ps[i].1.wr) := e3 4 _ rfl
      have h5 : (i + 1) * 5 ≤ cc * 5 := Nat.mul_le_mul_right _ (by omega)
      have HCE : Hid (∀ w5, Below wr.heap.size wr w5 → w5.cell? ⟨gb, i * 5, none⟩ = some (.string ps[i].1.path) ∧ w5.cell? ⟨gb, i * 5 + 1, none⟩ = some (.bool ps[i].1.dir) ∧ w5.cell? ⟨gb, i * 5 + 2, none⟩ = some (.int .i64 ps[i].1.quota) ∧ w5.cell? ⟨gb, i * 5 + 3, none⟩ = some (.slice ps[i].2.a ps[i].2.n ps[i].2.c) ∧ w5.cell? ⟨gb, i * 5 + 4, none⟩ = some (.int .i64 ps[i].1.wr) ∧ w5.frozen? ⟨gb, i * 5, none⟩ = false ∧ w5.frozen? ⟨gb, i * 5 + 1, none⟩ = false ∧ w5.frozen? ⟨gb, i * 5 + 2, none⟩ = false ∧ w5.frozen? ⟨gb, i * 5 + 3, none⟩ = false ∧ w5.frozen? ⟨gb, i * 5 + 4, none⟩ = false) := fun w5 B => by
        have hC5 := HH.out.cel.below B
        exact ⟨bel_cell B r0, bel_cell B r1, bel_cell B r2, bel_cell B r3, bel_cell B r4, (hC5.live _ (by omega)).2, (hC5.live _ (by omega)).2, (hC5.live _ (by omega)).2, (hC5.live _ (by omega)).2, (hC5.live _ (by omega)).2⟩
      have hs2 : w.heap.size + 2 ≤ wr.heap.size := Nat.le_trans HS1.out hb.size
      have HNX : Hid (∀ w5 (sx : RS) (w6 : World), Below wr.heap.size wr w5 → Free wr.heap.size w5 (ps[i].1, sx) → Rm w5 sx → w6 = w5.setCells gb (i * 5) (ndC (ps[i].1, sx)) → Half (w.heap.size + 2) w6 (some ⟨gb, 0, none⟩) nn cc ps (qs ++ [(ps[i].1, sx)]) (some gb) (i + 1) ∧ Below (w.heap.size + 2) W1 w6) := fun w5 sx w6 B F RM e => by
        subst e
        obtain ⟨h1, h2⟩ := HH.out.next HP.out hlt hs2 B F RM
        exact ⟨h1, HB.out.trans h2⟩
      have CI : Hid (∀ W, Below wr.heap.size wr W → Calls Tryz.prog 31 #[ndV ps[i]] W fun e w' => Copy2R W.heap.size ps[i].1 e w' ∧ Below W.heap.size W w') := fun W B => CC.out W i hip (bel_tr BR.out B)
      have e4 : wr.cell? ⟨w.heap.size, 4, none⟩ = some (.slice (some ⟨gb, 0, none⟩) nn cc) := (hb.cell (p := ⟨w.heap.size, 4, none⟩) (by show w.heap.size < w.heap.size + 2; omega)).trans HK.out.2.2.2.2.1
      have a4 := cell_al e4
      clear hH hb egt e2 e3 hcap h5 hs2 hle
      obtain ⟨X, hX⟩ : ∃ X, ps[i] = X := ⟨_, rfl⟩
      simp only [hX] at r0 r1 r2 r3 r4 HCE HNX CI
      have HXX : Hid (ps[i] = X) := hX
      clear hX
      obtain ⟨⟨xp, xd, xq, xbs, xw⟩, ⟨xa, xn, xc⟩⟩ := X
      unfold ndV at CI
      simp only at r0 r1 r2 r3 r4 HCE HNX CI
      go_wp2
      refine wp_region_any (by kernel_rfl) ?_
      try (change wpAny _ _ _ _ _ _ _ (World.drew _))
      refine wpAny_take (i := 0) (v := ?_) rfl (by kernel_rfl) (by kernel_rfl) (by kernel_rfl) (fun _ _ _ h => h) (Or.inl ⟨by rfl, ?_⟩) ?_
      rotate_left
      · intro w; go_simp; first | done | with_reducible rfl
      refine wpAny_take (i := 2) (v := ?_) rfl (by kernel_rfl) (by kernel_rfl) (by kernel_rfl) (fun _ _ _ h => h) (Or.inl ⟨by rfl, ?_⟩) ?_
      rotate_left
      · intro w; go_simp; first | done | with_reducible rfl
      refine wpAny_ready (rs := [1, 3]) (by kernel_rfl) (by simp) ?_
      refine AllReady.cons rfl (fun K hK => ?_) ?_
      · go_simp
        refine hK _ _ ?_
        clear hK K
        refine wpAny_ready (rs := [3]) (by kernel_rfl) (by simp) ?_
        refine AllReady.cons rfl (fun K hK => ?_) ?_
        · go_simp
          refine hK _ _ ?_
          clear hK K
          refine wpAny_ready (rs := [4]) (by kernel_rfl) (by simp) ?_
          refine AllReady.cons rfl (fun K hK => ?_) ?_
          · go_simp
            refine (CI.out _ (bel_tr (bel_al _ _) (bel_drewN _ 1))).mono ?_; rintro e w2 ⟨⟨sx, rfl, hF, hRm⟩, c2⟩; have HRM : Hid (Rm w2 sx) := hRm; clear hRm; have BW : Hid (Below wr.heap.size wr w2) := bel_tr (bel_tr (bel_al _ _) (bel_drewN _ 1)) c2; have d4 := bel_cell BW.out e4; obtain ⟨x0, x1, x2, x3, x4, f0, f1, f2, f3, f4⟩ := HCE.out w2 BW.out; have HF : Hid (Free wr.heap.size w2 (⟨xp, xd, xq, xbs, xw⟩, sx)) := hF.mono (by simp); clear hF c2; unfold ndV; simp only
            try go_simp
            refine hK _ _ ?_
            clear hK K
            refine wpAny_take (i := 5) (v := ?_) rfl (by kernel_rfl) (by kernel_rfl) (by kernel_rfl) (fun _ _ _ h => h) (Or.inl ⟨by rfl, ?_⟩) ?_
            rotate_left
            · intro w; go_simp; first | done | with_reducible rfl
            refine wpAny_ready (rs := [6]) (by kernel_rfl) (by simp) ?_
            refine AllReady.cons rfl (fun K hK => ?_) ?_
            · go_simp
              refine hK _ _ ?_
              clear hK K
              refine wpAny_done (by kernel_rfl) ?_ _
              go_wp2
              have HX : Hid _ := HNX.out _ _ _ BW.out HF.out HRM.out rfl
              go_roundw
              case rel => exact ⟨i + 1, qs ++ [((⟨xp, xd, xq, xbs, xw⟩ : Nd), sx)], by omega, by go_num, HX.out.1, HX.out.2⟩
              case measure => simp [intOf]; omega
            exact AllReady.nil
          exact AllReady.nil
        exact AllReady.nil
      refine AllReady.cons rfl (fun K hK => ?_) ?_
      · go_simp
        refine hK _ _ ?_
        clear hK K
        refine wpAny_ready (rs := [1, 4]) (by kernel_rfl) (by simp) ?_
        refine AllReady.cons rfl (fun K hK => ?_) ?_
        · go_simp
          refine hK _ _ ?_
          clear hK K
          refine wpAny_ready (rs := [4]) (by kernel_rfl) (by simp) ?_
          refine AllReady.cons rfl (fun K hK => ?_) ?_
          · go_simp
            refine (CI.out _ (bel_tr (bel_al _ _) (bel_drewN _ 1))).mono ?_; rintro e w2 ⟨⟨sx, rfl, hF, hRm⟩, c2⟩; have HRM : Hid (Rm w2 sx) := hRm; clear hRm; have BW : Hid (Below wr.heap.size wr w2) := bel_tr (bel_tr (bel_al _ _) (bel_drewN _ 1)) c2; have d4 := bel_cell BW.out e4; obtain ⟨x0, x1, x2, x3, x4, f0, f1, f2, f3, f4⟩ := HCE.out w2 BW.out; have HF : Hid (Free wr.heap.size w2 (⟨xp, xd, xq, xbs, xw⟩, sx)) := hF.mono (by simp); clear hF c2; unfold ndV; simp only
            try go_simp
            refine hK _ _ ?_
            clear hK K
            refine wpAny_take (i := 5) (v := ?_) rfl (by kernel_rfl) (by kernel_rfl) (by kernel_rfl) (fun _ _ _ h => h) (Or.inl ⟨by rfl, ?_⟩) ?_
            rotate_left
            · intro w; go_simp; first | done | with_reducible rfl
            refine wpAny_ready (rs := [6]) (by kernel_rfl) (by simp) ?_
            refine AllReady.cons rfl (fun K hK => ?_) ?_
            · go_simp
              refine hK _ _ ?_
              clear hK K
              refine wpAny_done (by kernel_rfl) ?_ _
              go_wp2
              have HX : Hid _ := HNX.out _ _ _ BW.out HF.out HRM.out rfl
              go_roundw
              case rel => exact ⟨i + 1, qs ++ [((⟨xp, xd, xq, xbs, xw⟩ : Nd), sx)], by omega, by go_num, HX.out.1, HX.out.2⟩
              case measure => simp [intOf]; omega
            exact AllReady.nil
          exact AllReady.nil
        refine AllReady.cons rfl (fun K hK => ?_) ?_
        · go_simp
          refine (CI.out _ (bel_tr (bel_al _ _) (bel_drewN _ 1))).mono ?_; rintro e w2 ⟨⟨sx, rfl, hF, hRm⟩, c2⟩; have HRM : Hid (Rm w2 sx) := hRm; clear hRm; have BW : Hid (Below wr.heap.size wr w2) := bel_tr (bel_tr (bel_al _ _) (bel_drewN _ 1)) c2; have d4 := bel_cell BW.out e4; obtain ⟨x0, x1, x2, x3, x4, f0, f1, f2, f3, f4⟩ := HCE.out w2 BW.out; have HF : Hid (Free wr.heap.size w2 (⟨xp, xd, xq, xbs, xw⟩, sx)) := hF.mono (by simp); clear hF c2; unfold ndV; simp only
          try go_simp
          refine hK _ _ ?_
          clear hK K
          refine wpAny_ready (rs := [1]) (by kernel_rfl) (by simp) ?_
          refine AllReady.cons rfl (fun K hK => ?_) ?_
          · go_simp
            refine hK _ _ ?_
            clear hK K
            refine wpAny_take (i := 5) (v := ?_) rfl (by kernel_rfl) (by kernel_rfl) (by kernel_rfl) (fun _ _ _ h => h) (Or.inl ⟨by rfl, ?_⟩) ?_
            rotate_left
            · intro w; go_simp; first | done | with_reducible rfl
            refine wpAny_ready (rs := [6]) (by kernel_rfl) (by simp) ?_
            refine AllReady.cons rfl (fun K hK => ?_) ?_
            · go_simp
              refine hK _ _ ?_
              clear hK K
              refine wpAny_done (by kernel_rfl) ?_ _
              go_wp2
              have HX : Hid _ := HNX.out _ _ _ BW.out HF.out HRM.out rfl
              go_roundw
              case rel => exact ⟨i + 1, qs ++ [((⟨xp, xd, xq, xbs, xw⟩ : Nd), sx)], by omega, by go_num, HX.out.1, HX.out.2⟩
              case measure => simp [intOf]; omega
            exact AllReady.nil
          exact AllReady.nil
        exact AllReady.nil
      exact AllReady.nil
    · obtain rfl : i = nn := by omega
      have hgd : decide ((i : Int) < (i : Int)) = false := decide_eq_false (by omega)
      have hle : ps.drop i = [] := List.drop_of_length_le (by rw [HP.out]; omega)
      have HLOT : Hid (Lot (w.heap.size + 2) wr ca i cc qs g) := by
        have hc := hH.cel
        rw [hle, List.append_nil] at hc
        exact ⟨hc, hH.len, hH.free, hH.ap⟩
      have HMQ : Hid (qs.map (·.1) = ns) := by
        show _ = _
        rw [hH.map, List.take_of_length_le (by rw [HP.out]; omega)]; exact HM.out
      have HSEP : Hid (qs.Pairwise ApartB) := hH.sep
      have HRMS : Hid (∀ x ∈ qs, Rm wr x.2) := hH.rm
      have HNIL : Hid (ca = none → cc = 0) := fun e => by
        have hc := hH.cel
        subst e
        cases hc with
        | nil h1 h2 h3 => cases h1; rfl
        | row g cap h1 hl h2 h3 h4 h5 h6 h7 => cases h1
      have cel : ∀ (j : Nat) (b : Nat) (v : Value), b < w.heap.size + 2 → W1.cell? ⟨b, j, none⟩ = some v → wr.cell? ⟨b, j, none⟩ = some v := fun j b v hlt hc => (hb.cell (p := ⟨b, j, none⟩) hlt).trans hc
      have k0 := cel 0 _ _ (by omega) HK.out.1
      have k1 := cel 1 _ _ (by omega) HK.out.2.1
      have k2 := cel 2 _ _ (by omega) HK.out.2.2.1
      have k3 := cel 3 _ _ (by omega) HK.out.2.2.2.1
      have k4 := cel 4 _ _ (by omega) HK.out.2.2.2.2.1
      have k5 := cel 5 _ _ (by omega) HK.out.2.2.2.2.2
      have m0 := cel 0 _ _ (by omega) HMM.out.1
      have m1 := cel 1 _ _ (by omega) HMM.out.2.1
      have m2 := cel 2 _ _ (by omega) HMM.out.2.2.1
      have m3 := cel 3 _ _ (by omega) HMM.out.2.2.2.1
      have m4 := cel 4 _ _ (by omega) HMM.out.2.2.2.2.1
      have m5 := cel 5 _ _ (by omega) HMM.out.2.2.2.2.2
      have hf0 : ∀ j, wr.frozen? ⟨w.heap.size, j, none⟩ = false := fun j => (World.frozen?_of_block (a := ⟨w.heap.size, j, none⟩) (hb.block w.heap.size (by omega))).trans (HFZ.out.1 j)
      have hf1 : ∀ j, wr.frozen? ⟨w.heap.size + 1, j, none⟩ = false := fun j => (World.frozen?_of_block (a := ⟨w.heap.size + 1, j, none⟩) (hb.block (w.heap.size + 1) (by omega))).trans (HFZ.out.2 j)
      have HF0 : Hid _ := hf0
      have HF1 : Hid _ := hf1
      have hs2 : w.heap.size + 2 ≤ wr.heap.size := Nat.le_trans HS1.out hb.size
      have HS2 : Hid (w.heap.size + 2 ≤ wr.heap.size) := hs2
      clear hH hb hle cel hlt hf0 hf1 hs2
      go_wp2_with (go_at_call 42; refine (CL.out _ BR.out).mono ?_; rintro e w2 ⟨⟨l2, lc2, gl, rfl, hLO⟩, c2⟩; have p0 := bel_cell c2 k0; have p1 := bel_cell c2 k1; have p2 := bel_cell c2 k2; have p3 := bel_cell c2 k3; have p4 := bel_cell c2 k4; have p5 := bel_cell c2 k5; have o0 := bel_cell c2 m0; have o1 := bel_cell c2 m1; have o2 := bel_cell c2 m2; have o3 := bel_cell c2 m3; have o4 := bel_cell c2 m4; have o5 := bel_cell c2 m5; have fz0 : ∀ j, w2.frozen? ⟨w.heap.size, j, none⟩ = false := fun j => (World.frozen?_of_block (a := ⟨w.heap.size, j, none⟩) (c2.block w.heap.size (World.block_lt_of_cell? _ _ k0))).trans (HF0.out j); have fz1 : ∀ j, w2.frozen? ⟨w.heap.size + 1, j, none⟩ = false := fun j => (World.frozen?_of_block (a := ⟨w.heap.size + 1, j, none⟩) (c2.block (w.heap.size + 1) (World.block_lt_of_cell? _ _ m0))).trans (HF1.out j); have HLO : Hid (LO wr.heap.size w2 l2 ln lc2 ls gl) := hLO; have B2 : Hid (Below wr.heap.size wr w2) := c2; clear hLO c2)
      have HC1 : SpC (w2.setCell ⟨w.heap.size, 5, none⟩ (.slice l2 ln lc2)) (w.heap.size + 1) zeroS ⟨none, 0, 0⟩ ⟨none, 0, 0⟩ :=
        ⟨(other_block _ _ _ _ _ _ (by omega)).trans o0, (other_block _ _ _ _ _ _ (by omega)).trans o1, (other_block _ _ _ _ _ _ (by omega)).trans o2, (other_block _ _ _ _ _ _ (by omega)).trans o3, (other_block _ _ _ _ _ _ (by omega)).trans o4, (other_block _ _ _ _ _ _ (by omega)).trans o5, fun j => by rw [World.frozen?_setCell]; exact fz1 j⟩
      obtain ⟨hE, hS⟩ := put6_at HC1 ⟨tx, nb, ng, now, ns, ls⟩ ⟨ca, i, cc⟩ ⟨l2, ln, lc2⟩
      have hS2 : Stay (fun k => k = w.heap.size ∨ k = w.heap.size + 1) w2 (put6 (w2.setCell ⟨w.heap.size, 5, none⟩ (.slice l2 ln lc2)) (w.heap.size + 1) ⟨tx, nb, ng, now, ns, ls⟩ ⟨ca, i, cc⟩ ⟨l2, ln, lc2⟩) :=
        (Stay.setCell (O := fun k => k = w.heap.size ∨ k = w.heap.size + 1) w2 ⟨w.heap.size, 5, none⟩ _ (.inl rfl)).then_same (hS.mono (fun k hk => .inr hk))
      have hO : Own (w.heap.size + 2) w2 ⟨tx, nb, ng, now, ns, ls⟩ ⟨ca, i, cc⟩ ⟨l2, ln, lc2⟩ qs g gl := by
        have hlt := HLO.out.own
        refine ⟨HLOT.out.below B2.out, HMQ.out, HLO.out.mono HS2.out, HSEP.out, fun k hk e => ?_, fun x hx k hk e => ?_⟩
        · have h1 := HLOT.out.cel
          rw [hk] at h1
          have := h1.lt.1
          have := (hlt k e).2
          omega
        · have := (HLOT.out.ok x hx).ok.bs.lt k hk
          have := (hlt k e).2
          omega
      have hO2 := hO.out hS2 (fun k hk => by omega)
      have hRM2 : ∀ x ∈ qs, Rm (put6 (w2.setCell ⟨w.heap.size, 5, none⟩ (.slice l2 ln lc2)) (w.heap.size + 1) ⟨tx, nb, ng, now, ns, ls⟩ ⟨ca, i, cc⟩ ⟨l2, ln, lc2⟩) x.2 := fun x hx => ((HRMS.out x hx).below B2.out).keep fun k hk => hS2.block k (((HRMS.out x hx).below B2.out).lt k hk) (fun e => by have := (HLOT.out.ok x hx).blk_ge k hk; omega)
      have hB : Below w.heap.size w (put6 (w2.setCell ⟨w.heap.size, 5, none⟩ (.slice l2 ln lc2)) (w.heap.size + 1) ⟨tx, nb, ng, now, ns, ls⟩ ⟨ca, i, cc⟩ ⟨l2, ln, lc2⟩) := (bel_tr BR.out B2.out).trans (hS2.below (bel_tr BR.out B2.out).size (fun k hk => by omega))
      unfold put6 at hE hO2 hB hRM2
      simp only at hE hO2 hB hRM2
      have t0 := hE.c0
      have t1 := hE.c1
      have t2 := hE.c2
      have t3 := hE.c3
      have t4 := hE.c4
      have t5 := hE.c5
      simp only at t0 t1 t2 t3 t4 t5
      refine bodyPost_ret (v := spV ⟨tx, nb, ng, now, ns, ls⟩ ⟨ca, i, cc⟩ ⟨l2, ln, lc2⟩) ?_ rfl ⟨⟨_, _, _, _, _, rfl, hO2.mono (by omega), hRM2, HNIL.out⟩, hB⟩
      simp only [results, Tryz.results21]
      simp [go_sem, spV, t0, t1, t2, t3, t4, t5]

end Go.Proofs.YticiihjkgiookaaGreat.Spa

/- The contract of space.setLengths. -/
namespace Go.Proofs.YticiihjkgiookaaGreat.Spa
open Go.RowKit Go.Proofs.YticiihjkgiookaaGreat
open Go.Proofs.YticiihjkgiookaaGreat.Lea (LS Ls findX putL renX LL LO LsR lsC wideL)
open Go.Proofs.YticiihjkgiookaaGreat.Edi (Ed Nm EdAt edV)

def setTo (bs : List Blk) (ls : List Int) (k : Nat) : List Blk := setLens (bs.take k) (ls.take k) ++ bs.drop k
theorem setTo_zero (bs : List Blk) (ls : List Int) : setTo bs ls 0 = bs := by unfold setTo; simp [setLens]
theorem setTo_all {bs : List Blk} {ls : List Int} {k : Nat} (h : ls.length = bs.length) (hk : bs.length ≤ k) : setTo bs ls k = setLens bs ls := by
  unfold setTo
  rw [List.take_of_length_le hk, List.take_of_length_le (by omega), List.drop_of_length_le hk, List.append_nil]
theorem setLens_snoc : ∀ (bs : List Blk) (ls : List Int) (b : Blk) (l : Int), ls.length = bs.length → setLens (bs ++ [b]) (ls ++ [l]) = setLens bs ls ++ [⟨b.id, b.gen, l⟩]
  | [], [], b, l, _ => rfl
  | c :: bs, m :: ls, b, l, h => by
    simp only [List.cons_append, setLens]
    rw [setLens_snoc bs ls b l (by simpa using h)]
  | [], m :: ls, _, _, h => by simp at h
  | c :: bs, [], _, _, h => by simp at h
theorem setTo_len {bs : List Blk} {ls : List Int} {k : Nat} (h : ls.length = bs.length) : (setTo bs ls k).length = bs.length := by
  unfold setTo
  rw [List.length_append, setLens_len _ _ (by rw [List.length_take, List.length_take]; omega), List.length_take, List.length_drop]; omega
theorem setTo_at {bs : List Blk} {ls : List Int} {k : Nat} (h : ls.length = bs.length) (hk : k < bs.length) : (setTo bs ls k)[k]'(by rw [setTo_len h]; exact hk) = bs[k] := by
  unfold setTo
  have hl : (setLens (bs.take k) (ls.take k)).length = k := by rw [setLens_len _ _ (by rw [List.length_take, List.length_take]; omega), List.length_take]; omega
  rw [List.getElem_append_right (by omega)]
  simp [hl]
theorem setTo_next {bs : List Blk} {ls : List Int} {k : Nat} (h : ls.length = bs.length) (hk : k < bs.length) : setTo bs ls (k + 1) = (setTo bs ls k).set k ⟨bs[k].id, bs[k].gen, ls[k]'(by omega)⟩ := by
  unfold setTo
  have hl : (setLens (bs.take k) (ls.take k)).length = k := by rw [setLens_len _ _ (by rw [List.length_take, List.length_take]; omega), List.length_take]; omega
  rw [List.take_succ_eq_append_getElem hk, List.take_succ_eq_append_getElem (show k < ls.length by omega), setLens_snoc _ _ _ _ (by rw [List.length_take, List.length_take]; omega), List.set_append_right _ _ (by omega), hl, Nat.sub_self, List.drop_eq_getElem_cons hk, List.set_cons_zero]
  simp

/-- One number of a block of the call's own is written. -/
theorem Free.setBlk {base : Nat} {w : World} {x : Nd} {s : RS} (h : Free base w (x, s)) {b j o : Nat} (hb : s.a = some ⟨b, 0, none⟩) (hj : j < x.bs.length) (ho : o < 3) (v : Int) (y : Blk) (hy : ∀ i, (blkC y)[i]? = if i = o then some (.int .i64 v) else (blkC x.bs[j])[i]?) :
    Free base (w.setCell ⟨b, j * 3 + o, none⟩ (.int .i64 v)) (withBs x (x.bs.set j y), s) ∧ Stay (fun k => s.blk = some k) w (w.setCell ⟨b, j * 3 + o, none⟩ (.int .i64 v)) := by
  have hl : x.bs.length = s.n := h.ok.bs.len
  obtain ⟨b', ha, hle, hc⟩ := h.own (by show 0 < s.n; omega)
  have ha' : s.a = some ⟨b', 0, none⟩ := ha
  rw [hb] at ha'
  cases ha'
  have hblk : s.blk = some b := by unfold RS.blk; rw [if_neg (by omega), hb]; rfl
  have hlen : ∀ y : Blk, (blkC y).length = 3 := fun _ => rfl
  have hcell : ∀ t, (w.setCell ⟨b, j * 3 + o, none⟩ (.int .i64 v)).cell? ⟨b, t, none⟩ = if t = j * 3 + o then some (.int .i64 v) else w.cell? ⟨b, t, none⟩ := fun t => by
    by_cases e : t = j * 3 + o
    · subst e
      rw [if_pos rfl]
      have h1 := (hc (j * 3 + o) (by show j * 3 + o < s.n * 3; omega)).1
      obtain ⟨u, hu⟩ := Option.isSome_iff_exists.1 h1
      exact same_cell hu
    · rw [if_neg e]
      exact other_cell _ _ _ _ _ (fun e2 => e e2.symm)
  refine ⟨⟨⟨h.ok.small, ?_, h.ok.bs.lid, h.ok.bs.nil, fun hp => ?_⟩, fun hp => ⟨b, hb, hle, fun t ht => ⟨?_, ?_⟩⟩⟩, Stay.setCell _ _ _ hblk⟩
  · show (x.bs.set j y).length = s.n
    rw [List.length_set]; exact hl
  · refine ⟨b, 0, hb, fun q hq i u hu => ?_⟩
    have hq' : q < x.bs.length := by
      have : q < (x.bs.set j y).length := hq
      rwa [List.length_set] at this
    obtain ⟨b2, off2, h1, h2⟩ := h.ok.bs.cells hp
    have h1' : s.a = some ⟨b2, off2, none⟩ := h1
    rw [hb] at h1'
    cases h1'
    have hu' : (blkC ((x.bs.set j y)[q]'(by rw [List.length_set]; exact hq')))[i]? = some u := hu
    have hi : i < 3 := by
      have := (List.getElem?_eq_some_iff.1 hu').1
      rwa [hlen] at this
    rw [Nat.zero_add, hcell]
    by_cases e : q = j
    · subst e
      rw [List.getElem_set_self, hy i] at hu'
      by_cases e2 : i = o
      · subst e2
        rw [if_pos rfl] at hu'
        rw [if_pos rfl]; exact hu'
      · rw [if_neg e2] at hu'
        rw [if_neg (by omega)]
        have := h2 q hq' i u hu'
        rw [Nat.zero_add] at this; exact this
    · rw [List.getElem_set_ne (fun e2 => e e2.symm)] at hu'
      rw [if_neg (by omega)]
      have := h2 q hq' i u hu'
      rw [Nat.zero_add] at this; exact this
  · rw [hcell]
    split
    · rfl
    · exact (hc t ht).1
  · rw [World.frozen?_setCell]; exact (hc t ht).2

theorem withBs_self (x : Nd) : withBs x x.bs = x := rfl
theorem withBs_two (x : Nd) (a b : List Blk) : withBs (withBs x a) b = withBs x b := rfl

set_option maxRecDepth 100000 in
set_option maxHeartbeats 2000000 in
theorem setLengths_ok2 {base gb i : Nat} {w : World} {x : Nd} {s : RS} {la : Option Addr} {lm lq : Nat} {ls : List Int} (hF : Free base w (x, s)) (h3 : w.cell? ⟨gb, i * 5 + 3, none⟩ = some (.slice s.a s.n s.c)) (hg : s.blk ≠ some gb) (hl : Nm w la lm ls) (hlb : ∀ ad, la = some ad → 0 < lm → s.blk ≠ some ad.block) (hok : LenOk x.bs ls) (h8 : s.n ≤ 8) :
    Calls Tryz.prog 94 #[.pointer (some ⟨gb, i * 5, none⟩), .slice la lm lq] w fun e w' => e = .returned (.tuple #[]) ∧ Free base w' (withBs x (setLens x.bs ls), s) ∧ Stay (fun k => s.blk = some k) w w' ∧ (Rm w s → Rm w' s) := by
  have hlen : ls.length = x.bs.length := hok.len
  have hsn : x.bs.length = s.n := hF.ok.bs.len
  have hlm : ls.length = lm := hl.len
  have hmn : lm = s.n := by omega
  subst hmn
  have CR : Hid (∀ E W, Calls Tryz.prog 18 #[.bool false, .int .i64 E] W fun e w' => e = .returned (.tuple #[]) ∧ W = w') := fun E W => (refuse_no E W).mono fun e w' ⟨h1, h2⟩ => ⟨h1, h2.symm⟩
  have HF : Hid (Free base w (x, s)) := hF
  have H3 : Hid (w.cell? ⟨gb, i * 5 + 3, none⟩ = some (.slice s.a s.n s.c)) := h3
  have HL : Hid (Nm w la s.n ls) := hl
  have HLB : Hid (∀ ad, la = some ad → 0 < s.n → s.blk ≠ some ad.block) := hlb
  have HE : Hid (∀ l ∈ ls, l ≤ 64) := hok.each
  have HLEN : Hid (ls.length = x.bs.length) := hlen
  have HG : Hid (s.blk ≠ some gb) := hg
  have HSN : Hid (x.bs.length = s.n) := hsn
  have hne : ((s.n : Int) != (s.n : Int)) = false := by simp
  clear hF hl hlb hok hlen hlm hg hsn
  go_enter Tryz.func94, Tryz.ntmps94
  go_wp2_with (go_at_call 18; refine (CR.out _ _).mono ?_; rintro e w1 ⟨rfl, rfl⟩)
  go_loopw [4, 5, 17] (fun _ _ v17 wr => ∃ k : Nat, k ≤ s.n ∧ v17 = .int .i64 k ∧ Free base wr (withBs x (setTo x.bs ls k), s) ∧ Stay (fun k => s.blk = some k) w wr ∧ (Rm w s → Rm wr s)) (fun _ _ v17 _ => s.n - (intOf v17).toNat)
  case atStart => exact ⟨0, by omega, rfl, by rw [setTo_zero]; exact HF.out, Stay.refl _ _, fun e => e⟩
  case round =>
    obtain ⟨k, hk, rfl, hFr, hSt, hRm⟩ := hrel
    have HRM : Hid (Rm w s → Rm wr s) := hRm
    clear hRm
    have HFR : Hid (Free base wr (withBs x (setTo x.bs ls k), s)) := hFr
    have HST : Hid (Stay (fun k => s.blk = some k) w wr) := hSt
    by_cases hlt : k < s.n
    · have hkb : k < x.bs.length := by rw [HSN.out]; exact hlt
      have hkl : k < ls.length := by rw [HLEN.out]; exact hkb
      obtain ⟨lb, loff, rfl, hlc⟩ := HL.out.cells (by omega)
      have l0 : wr.cell? ⟨lb, loff + k, none⟩ = some (.int .i64 ls[k]) := (World.cell?_of_block (a := ⟨lb, loff + k, none⟩) (hSt.block lb (World.block_lt_of_cell? _ _ (hlc k hkl)) (fun e => HLB.out _ rfl (by omega) e))).trans (hlc k hkl)
      have g3 : wr.cell? ⟨gb, i * 5 + 3, none⟩ = some (.slice s.a s.n s.c) := (World.cell?_of_block (a := ⟨gb, i * 5 + 3, none⟩) (hSt.block gb (World.block_lt_of_cell? _ _ H3.out) (fun e => HG.out e))).trans H3.out
      obtain ⟨b, ha, hle, hcl⟩ := hFr.own (by show 0 < s.n; omega)
      have ha' : s.a = some ⟨b, 0, none⟩ := ha
      have hcl' : ∀ j, j < s.n * 3 → (wr.cell? ⟨b, j, none⟩).isSome = true ∧ wr.frozen? ⟨b, j, none⟩ = false := hcl
      obtain ⟨hc1, hf2⟩ := hcl' (k * 3 + 2) (by omega)
      obtain ⟨u, hu⟩ := Option.isSome_iff_exists.1 hc1
      have h64 : ls[k] ≤ 64 := HE.out _ (List.getElem_mem hkl)
      have hgt : decide ((64 : Int) < ls[k]) = false := decide_eq_false (by omega)
      have HNX : Hid (∀ W, W = wr.setCell ⟨b, k * 3 + 2, none⟩ (.int .i64 ls[k]) → Free base W (withBs x (setTo x.bs ls (k + 1)), s) ∧ Stay (fun k => s.blk = some k) w W) := fun W e => by
        subst e
        have hj : k < (withBs x (setTo x.bs ls k)).bs.length := by show k < (setTo x.bs ls k).length; rw [setTo_len HLEN.out]; exact hkb
        obtain ⟨h1, h2⟩ := Free.setBlk HFR.out ha' hj (o := 2) (by omega) ls[k] ⟨x.bs[k].id, x.bs[k].gen, ls[k]⟩ (fun i => by
          have e2 : (withBs x (setTo x.bs ls k)).bs[k] = x.bs[k] := setTo_at HLEN.out hkb
          rw [e2]
          match i with
          | 0 => rfl
          | 1 => rfl
          | 2 => rfl
          | i + 3 => rfl)
        refine ⟨?_, HST.out.then_same h2⟩
        rw [setTo_next HLEN.out hkb]
        exact h1
      rw [ha'] at g3
      clear hFr hSt hlc ha ha' hcl hcl' hc1 h64 hle
      obtain ⟨L, hL⟩ : ∃ L, ls[k] = L := ⟨_, rfl⟩
      rw [hL] at l0 hgt HNX
      have hkI : (k : Int) < (s.n : Int) := by omega
      clear hL hkb hkl
      go_wp2_with (go_at_call 18; refine (CR.out _ _).mono ?_; rintro e w1 ⟨rfl, rfl⟩)
      have HX : Hid _ := HNX.out _ rfl
      go_roundw
      case rel => exact ⟨k + 1, by omega, by go_num, HX.out.1, HX.out.2, fun e => (HRM.out e).set _ _⟩
      case measure => simp [intOf]; omega
    · obtain rfl : k = s.n := by omega
      have hgd : decide ((s.n : Int) < (s.n : Int)) = false := decide_eq_false (by omega)
      rw [setTo_all HLEN.out (by rw [HSN.out]; omega)] at hFr
      have HX : Hid _ := hFr
      clear hFr hSt hlt
      go_wp2
      first | go_end0 | refine bodyPost_ret (results_none rfl _ _ _) rfl ?_
      exact ⟨rfl, HX.out, HST.out, HRM.out⟩

theorem setLengths_ok {base gb i : Nat} {w : World} {x : Nd} {s : RS} {la : Option Addr} {lm lq : Nat} {ls : List Int} (hF : Free base w (x, s)) (h3 : w.cell? ⟨gb, i * 5 + 3, none⟩ = some (.slice s.a s.n s.c)) (hg : s.blk ≠ some gb) (hl : Nm w la lm ls) (hlb : ∀ ad, la = some ad → 0 < lm → s.blk ≠ some ad.block) (hok : LenOk x.bs ls) (h8 : s.n ≤ 8) :
    Calls Tryz.prog 94 #[.pointer (some ⟨gb, i * 5, none⟩), .slice la lm lq] w fun e w' => e = .returned (.tuple #[]) ∧ Free base w' (withBs x (setLens x.bs ls), s) ∧ Stay (fun k => s.blk = some k) w w' :=
  (setLengths_ok2 hF h3 hg hl hlb hok h8).mono fun _ _ ⟨h1, h2, h3, _⟩ => ⟨h1, h2, h3⟩

theorem lens_first {bs : List Blk} {ls : List Int} (hl : ls.length = bs.length) (h : ¬ LenOk bs ls) : ∃ k, ∃ hk : k < ls.length, 64 < ls[k] ∧ ∀ j (hj : j < ls.length), j < k → ls[j] ≤ 64 := by
  have h1 : ¬ ∀ l ∈ ls, l ≤ 64 := fun e => h ⟨hl, e⟩
  clear h hl
  induction ls with
  | nil => exact absurd (fun l hl => by cases hl) h1
  | cons l ls ih =>
    by_cases h2 : l ≤ 64
    · have h3 : ¬ ∀ l ∈ ls, l ≤ 64 := fun e => h1 (fun m hm => by
        rcases List.mem_cons.1 hm with rfl | hm
        · exact h2
        · exact e m hm)
      obtain ⟨k, hk, h4, h5⟩ := ih h3
      refine ⟨k + 1, by simpa using hk, by simpa using h4, fun j hj hjk => ?_⟩
      cases j with
      | zero => exact h2
      | succ j => simpa using h5 j (by simpa using hj) (by omega)
    · exact ⟨0, by simp, by simpa using h2, fun j hj hjk => by omega⟩

set_option maxRecDepth 100000 in
set_option maxHeartbeats 2000000 in
theorem setLengths_no {base gb i : Nat} {w : World} {x : Nd} {s : RS} {la : Option Addr} {lm lq : Nat} {ls : List Int} (hF : Free base w (x, s)) (h3 : w.cell? ⟨gb, i * 5 + 3, none⟩ = some (.slice s.a s.n s.c)) (hg : s.blk ≠ some gb) (hl : Nm w la lm ls) (hlb : ∀ ad, la = some ad → 0 < lm → s.blk ≠ some ad.block) (hok : ¬ LenOk x.bs ls) (h8 : s.n ≤ 8) :
    Calls Tryz.prog 94 #[.pointer (some ⟨gb, i * 5, none⟩), .slice la lm lq] w fun e w' => e = leftV 1 ∧ Stay (fun k => s.blk = some k) w w' := by
  have hsn : x.bs.length = s.n := hF.ok.bs.len
  have hlm : ls.length = lm := hl.len
  have hlid := hl.lid
  unfold maxLen at hlid
  by_cases hmn : lm = s.n
  · subst hmn
    have hlen : ls.length = x.bs.length := by omega
    obtain ⟨K, hK, hK1, hK2⟩ := lens_first hlen hok
    have CR : Hid (∀ E W, Calls Tryz.prog 18 #[.bool false, .int .i64 E] W fun e w' => e = .returned (.tuple #[]) ∧ W = w') := fun E W => (refuse_no E W).mono fun e w' ⟨h1, h2⟩ => ⟨h1, h2.symm⟩
    have HF : Hid (Free base w (x, s)) := hF
    have H3 : Hid (w.cell? ⟨gb, i * 5 + 3, none⟩ = some (.slice s.a s.n s.c)) := h3
    have HL : Hid (Nm w la s.n ls) := hl
    have HLB : Hid (∀ ad, la = some ad → 0 < s.n → s.blk ≠ some ad.block) := hlb
    have HE : Hid (∀ j (hj : j < ls.length), j < K → ls[j] ≤ 64) := hK2
    have HK : Hid (64 < ls[K]) := hK1
    have HLEN : Hid (ls.length = x.bs.length) := hlen
    have HG : Hid (s.blk ≠ some gb) := hg
    have HSN : Hid (x.bs.length = s.n) := hsn
    have hKn : K < s.n := by omega
    have hne : ((s.n : Int) != (s.n : Int)) = false := by simp
    clear hF hl hlb hok hlen hlm hg hsn hK1 hK2
    go_enter Tryz.func94, Tryz.ntmps94
    go_wp2_with (go_at_call 18; refine (CR.out _ _).mono ?_; rintro e w1 ⟨rfl, rfl⟩)
    go_loopw [4, 5, 17] (fun _ _ v17 wr => ∃ k : Nat, k ≤ K ∧ v17 = .int .i64 k ∧ Free base wr (withBs x (setTo x.bs ls k), s) ∧ Stay (fun k => s.blk = some k) w wr) (fun _ _ v17 _ => s.n - (intOf v17).toNat)
    case atStart => exact ⟨0, by omega, rfl, by rw [setTo_zero]; exact HF.out, Stay.refl _ _⟩
    case round =>
      obtain ⟨k, hk, rfl, hFr, hSt⟩ := hrel
      have HFR : Hid (Free base wr (withBs x (setTo x.bs ls k), s)) := hFr
      have HST : Hid (Stay (fun k => s.blk = some k) w wr) := hSt
      have hlt : k < s.n := by omega
      have hkb : k < x.bs.length := by rw [HSN.out]; exact hlt
      have hkl : k < ls.length := by rw [HLEN.out]; exact hkb
      obtain ⟨lb, loff, rfl, hlc⟩ := HL.out.cells (by omega)
      have l0 : wr.cell? ⟨lb, loff + k, none⟩ = some (.int .i64 ls[k]) := (World.cell?_of_block (a := ⟨lb, loff + k, none⟩) (hSt.block lb (World.block_lt_of_cell? _ _ (hlc k hkl)) (fun e => HLB.out _ rfl (by omega) e))).trans (hlc k hkl)
      have g3 : wr.cell? ⟨gb, i * 5 + 3, none⟩ = some (.slice s.a s.n s.c) := (World.cell?_of_block (a := ⟨gb, i * 5 + 3, none⟩) (hSt.block gb (World.block_lt_of_cell? _ _ H3.out) (fun e => HG.out e))).trans H3.out
      have hkI : (k : Int) < (s.n : Int) := by omega
      by_cases hkK : k < K
      · obtain ⟨b, ha, hle, hcl⟩ := hFr.own (by show 0 < s.n; omega)
        have ha' : s.a = some ⟨b, 0, none⟩ := ha
        have hcl' : ∀ j, j < s.n * 3 → (wr.cell? ⟨b, j, none⟩).isSome = true ∧ wr.frozen? ⟨b, j, none⟩ = false := hcl
        obtain ⟨hc1, hf2⟩ := hcl' (k * 3 + 2) (by omega)
        obtain ⟨u, hu⟩ := Option.isSome_iff_exists.1 hc1
        have h64 : ls[k] ≤ 64 := HE.out _ hkl hkK
        have hgt : decide ((64 : Int) < ls[k]) = false := decide_eq_false (by omega)
        have HNX : Hid (∀ W, W = wr.setCell ⟨b, k * 3 + 2, none⟩ (.int .i64 ls[k]) → Free base W (withBs x (setTo x.bs ls (k + 1)), s) ∧ Stay (fun k => s.blk = some k) w W) := fun W e => by
          subst e
          have hj : k < (withBs x (setTo x.bs ls k)).bs.length := by show k < (setTo x.bs ls k).length; rw [setTo_len HLEN.out]; exact hkb
          obtain ⟨h1, h2⟩ := Free.setBlk HFR.out ha' hj (o := 2) (by omega) ls[k] ⟨x.bs[k].id, x.bs[k].gen, ls[k]⟩ (fun i => by
            have e2 : (withBs x (setTo x.bs ls k)).bs[k] = x.bs[k] := setTo_at HLEN.out hkb
            rw [e2]
            match i with
            | 0 => rfl
            | 1 => rfl
            | 2 => rfl
            | i + 3 => rfl)
          refine ⟨?_, HST.out.then_same h2⟩
          rw [setTo_next HLEN.out hkb]
          exact h1
        rw [ha'] at g3
        clear hFr hSt hlc ha ha' hcl hcl' hc1 h64 hle
        obtain ⟨L, hL⟩ : ∃ L, ls[k] = L := ⟨_, rfl⟩
        rw [hL] at l0 hgt HNX
        clear hL hkb hkl
        go_wp2_with (go_at_call 18; refine (CR.out _ _).mono ?_; rintro e w1 ⟨rfl, rfl⟩)
        have HX : Hid _ := HNX.out _ rfl
        go_roundw
        case rel => exact ⟨k + 1, by omega, by go_num, HX.out.1, HX.out.2⟩
        case measure => simp [intOf]; omega
      · obtain rfl : k = K := by omega
        have hgt : decide ((64 : Int) < ls[k]) = true := decide_eq_true HK.out
        clear hFr hSt hlc hkK
        obtain ⟨L, hL⟩ : ∃ L, ls[k] = L := ⟨_, rfl⟩
        rw [hL] at l0 hgt
        clear hL hkb HE HK
        go_wp2_with (go_at_call 18; refine (refuse_yes _ _).mono ?_; rintro e w1 ⟨rfl, hw1⟩)
        subst hw1
        exact ⟨rfl, rfl, HST.out⟩
  · have hne : ((lm : Int) != (s.n : Int)) = true := by simp; omega
    clear hF hl hlb hok hg hsn hmn hlm
    go_enter Tryz.func94, Tryz.ntmps94
    go_wp2_with (go_at_call 18; refine (refuse_yes _ _).mono ?_; rintro e w1 ⟨rfl, hw1⟩)
    subst hw1
    exact ⟨rfl, rfl, Stay.refl _ _⟩

end Go.Proofs.YticiihjkgiookaaGreat.Spa

/- Answers in memory; what becomes of a space of the call's own. -/
namespace Go.Proofs.YticiihjkgiookaaGreat.Spa
open Go.RowKit Go.Proofs.YticiihjkgiookaaGreat
open Go.Proofs.YticiihjkgiookaaGreat.Lea (LS Ls findX putL renX LL LO LsR lsC wideL)
open Go.Proofs.YticiihjkgiookaaGreat.Edi (Ed Nm EdAt edV)

def anV (E : Int) (b : Blk) (T : RS) (x : NR) (n : Int) : Value := .agg #[.int .i64 E, .int .i64 b.id, .int .i64 b.gen, .int .i64 b.len, .slice T.a T.n T.c, .string x.1.path, .bool x.1.dir, .int .i64 x.1.quota, .slice x.2.a x.2.n x.2.c, .int .i64 x.1.wr, .int .i64 n]
/-- The cells of an answer. -/
structure AnC (w : World) (B : Nat) (E : Int) (b : Blk) (T : RS) (x : NR) (n : Int) : Prop where
  c0 : w.cell? ⟨B, 0, none⟩ = some (.int .i64 E)
  c1 : w.cell? ⟨B, 1, none⟩ = some (.int .i64 b.id)
  c2 : w.cell? ⟨B, 2, none⟩ = some (.int .i64 b.gen)
  c3 : w.cell? ⟨B, 3, none⟩ = some (.int .i64 b.len)
  c4 : w.cell? ⟨B, 4, none⟩ = some (.slice T.a T.n T.c)
  c5 : w.cell? ⟨B, 5, none⟩ = some (.string x.1.path)
  c6 : w.cell? ⟨B, 6, none⟩ = some (.bool x.1.dir)
  c7 : w.cell? ⟨B, 7, none⟩ = some (.int .i64 x.1.quota)
  c8 : w.cell? ⟨B, 8, none⟩ = some (.slice x.2.a x.2.n x.2.c)
  c9 : w.cell? ⟨B, 9, none⟩ = some (.int .i64 x.1.wr)
  c10 : w.cell? ⟨B, 10, none⟩ = some (.int .i64 n)
  fr : ∀ j, w.frozen? ⟨B, j, none⟩ = false
theorem AnC.keep {O : Nat → Prop} {w w' : World} {B : Nat} {E : Int} {b : Blk} {T : RS} {x : NR} {n : Int} (h : AnC w B E b T x n) (hs : Stay O w w') (hO : ¬ O B) : AnC w' B E b T x n := by
  have hb := hs.block B (World.block_lt_of_cell? _ _ h.c0) hO
  exact ⟨(World.cell?_of_block (a := ⟨B, 0, none⟩) hb).trans h.c0, (World.cell?_of_block (a := ⟨B, 1, none⟩) hb).trans h.c1, (World.cell?_of_block (a := ⟨B, 2, none⟩) hb).trans h.c2, (World.cell?_of_block (a := ⟨B, 3, none⟩) hb).trans h.c3, (World.cell?_of_block (a := ⟨B, 4, none⟩) hb).trans h.c4, (World.cell?_of_block (a := ⟨B, 5, none⟩) hb).trans h.c5, (World.cell?_of_block (a := ⟨B, 6, none⟩) hb).trans h.c6, (World.cell?_of_block (a := ⟨B, 7, none⟩) hb).trans h.c7, (World.cell?_of_block (a := ⟨B, 8, none⟩) hb).trans h.c8, (World.cell?_of_block (a := ⟨B, 9, none⟩) hb).trans h.c9, (World.cell?_of_block (a := ⟨B, 10, none⟩) hb).trans h.c10, fun j => (World.frozen?_of_block (a := ⟨B, j, none⟩) hb).trans (h.fr j)⟩
theorem AnC.below {w w' : World} {B : Nat} {E : Int} {b : Blk} {T : RS} {x : NR} {n : Int} (h : AnC w B E b T x n) (hb : Below w.heap.size w w') : AnC w' B E b T x n :=
  h.keep (O := fun _ => False) (Stay.of_below hb) (fun e => e)
def noS : RS := ⟨none, 0, 0⟩
def zeroX : NR := (zeroN, noS)
theorem AnC.new (w : World) (t : TypeId) : AnC (w.alloc (.cells #[.int .i64 0, .int .i64 0, .int .i64 0, .int .i64 0, .slice none 0 0, .string ⟨#[]⟩, .bool false, .int .i64 0, .slice none 0 0, .int .i64 0, .int .i64 0] t)) w.heap.size 0 zeroB noS zeroX 0 :=
  ⟨World.cell?_alloc_new w _ t 0, World.cell?_alloc_new w _ t 1, World.cell?_alloc_new w _ t 2, World.cell?_alloc_new w _ t 3, World.cell?_alloc_new w _ t 4, World.cell?_alloc_new w _ t 5, World.cell?_alloc_new w _ t 6, World.cell?_alloc_new w _ t 7, World.cell?_alloc_new w _ t 8, World.cell?_alloc_new w _ t 9, World.cell?_alloc_new w _ t 10, fun j => World.frozen?_alloc_new w _ t j⟩
/-- The world behind the storing of a whole answer. -/
def put11 (w : World) (B : Nat) (E : Int) (b : Blk) (T : RS) (x : NR) (n : Int) : World :=
  (((((((((((w.setCell ⟨B, 0, none⟩ (.int .i64 E)).setCell ⟨B, 1, none⟩ (.int .i64 b.id)).setCell ⟨B, 2, none⟩ (.int .i64 b.gen)).setCell ⟨B, 3, none⟩ (.int .i64 b.len)).setCell ⟨B, 4, none⟩ (.slice T.a T.n T.c)).setCell ⟨B, 5, none⟩ (.string x.1.path)).setCell ⟨B, 6, none⟩ (.bool x.1.dir)).setCell ⟨B, 7, none⟩ (.int .i64 x.1.quota)).setCell ⟨B, 8, none⟩ (.slice x.2.a x.2.n x.2.c)).setCell ⟨B, 9, none⟩ (.int .i64 x.1.wr)).setCell ⟨B, 10, none⟩ (.int .i64 n))
theorem put11_at {w : World} {B : Nat} {E0 : Int} {b0 : Blk} {T0 : RS} {x0 : NR} {n0 : Int} (h : AnC w B E0 b0 T0 x0 n0) (E : Int) (b : Blk) (T : RS) (x : NR) (n : Int) : AnC (put11 w B E b T x n) B E b T x n ∧ Stay (fun k => k = B) w (put11 w B E b T x n) := by
  constructor
  · unfold put11
    refine ⟨?_, ?_, ?_, ?_, ?_, ?_, ?_, ?_, ?_, ?_, ?_, fun j => by simp only [World.frozen?_setCell]; exact h.fr j⟩
    · rw [other_cell _ _ _ _ _ (by omega), other_cell _ _ _ _ _ (by omega), other_cell _ _ _ _ _ (by omega), other_cell _ _ _ _ _ (by omega), other_cell _ _ _ _ _ (by omega), other_cell _ _ _ _ _ (by omega), other_cell _ _ _ _ _ (by omega), other_cell _ _ _ _ _ (by omega), other_cell _ _ _ _ _ (by omega), other_cell _ _ _ _ _ (by omega)]
      refine same_cell (u := .int .i64 E0) ?_
      exact h.c0
    · rw [other_cell _ _ _ _ _ (by omega), other_cell _ _ _ _ _ (by omega), other_cell _ _ _ _ _ (by omega), other_cell _ _ _ _ _ (by omega), other_cell _ _ _ _ _ (by omega), other_cell _ _ _ _ _ (by omega), other_cell _ _ _ _ _ (by omega), other_cell _ _ _ _ _ (by omega), other_cell _ _ _ _ _ (by omega)]
      refine same_cell (u := .int .i64 b0.id) ?_
      rw [other_cell _ _ _ _ _ (by omega)]
      exact h.c1
    · rw [other_cell _ _ _ _ _ (by omega), other_cell _ _ _ _ _ (by omega), other_cell _ _ _ _ _ (by omega), other_cell _ _ _ _ _ (by omega), other_cell _ _ _ _ _ (by omega), other_cell _ _ _ _ _ (by omega), other_cell _ _ _ _ _ (by omega), other_cell _ _ _ _ _ (by omega)]
      refine same_cell (u := .int .i64 b0.gen) ?_
      rw [other_cell _ _ _ _ _ (by omega), other_cell _ _ _ _ _ (by omega)]
      exact h.c2
    · rw [other_cell _ _ _ _ _ (by omega), other_cell _ _ _ _ _ (by omega), other_cell _ _ _ _ _ (by omega), other_cell _ _ _ _ _ (by omega), other_cell _ _ _ _ _ (by omega), other_cell _ _ _ _ _ (by omega), other_cell _ _ _ _ _ (by omega)]
      refine same_cell (u := .int .i64 b0.len) ?_
      rw [other_cell _ _ _ _ _ (by omega), other_cell _ _ _ _ _ (by omega), other_cell _ _ _ _ _ (by omega)]
      exact h.c3
    · rw [other_cell _ _ _ _ _ (by omega), other_cell _ _ _ _ _ (by omega), other_cell _ _ _ _ _ (by omega), other_cell _ _ _ _ _ (by omega), other_cell _ _ _ _ _ (by omega), other_cell _ _ _ _ _ (by omega)]
      refine same_cell (u := .slice T0.a T0.n T0.c) ?_
      rw [other_cell _ _ _ _ _ (by omega), other_cell _ _ _ _ _ (by omega), other_cell _ _ _ _ _ (by omega), other_cell _ _ _ _ _ (by omega)]
      exact h.c4
    · rw [other_cell _ _ _ _ _ (by omega), other_cell _ _ _ _ _ (by omega), other_cell _ _ _ _ _ (by omega), other_cell _ _ _ _ _ (by omega), other_cell _ _ _ _ _ (by omega)]
      refine same_cell (u := .string x0.1.path) ?_
      rw [other_cell _ _ _ _ _ (by omega), other_cell _ _ _ _ _ (by omega), other_cell _ _ _ _ _ (by omega), other_cell _ _ _ _ _ (by omega), other_cell _ _ _ _ _ (by omega)]
      exact h.c5
    · rw [other_cell _ _ _ _ _ (by omega), other_cell _ _ _ _ _ (by omega), other_cell _ _ _ _ _ (by omega), other_cell _ _ _ _ _ (by omega)]
      refine same_cell (u := .bool x0.1.dir) ?_
      rw [other_cell _ _ _ _ _ (by omega), other_cell _ _ _ _ _ (by omega), other_cell _ _ _ _ _ (by omega), other_cell _ _ _ _ _ (by omega), other_cell _ _ _ _ _ (by omega), other_cell _ _ _ _ _ (by omega)]
      exact h.c6
    · rw [other_cell _ _ _ _ _ (by omega), other_cell _ _ _ _ _ (by omega), other_cell _ _ _ _ _ (by omega)]
      refine same_cell (u := .int .i64 x0.1.quota) ?_
      rw [other_cell _ _ _ _ _ (by omega), other_cell _ _ _ _ _ (by omega), other_cell _ _ _ _ _ (by omega), other_cell _ _ _ _ _ (by omega), other_cell _ _ _ _ _ (by omega), other_cell _ _ _ _ _ (by omega), other_cell _ _ _ _ _ (by omega)]
      exact h.c7
    · rw [other_cell _ _ _ _ _ (by omega), other_cell _ _ _ _ _ (by omega)]
      refine same_cell (u := .slice x0.2.a x0.2.n x0.2.c) ?_
      rw [other_cell _ _ _ _ _ (by omega), other_cell _ _ _ _ _ (by omega), other_cell _ _ _ _ _ (by omega), other_cell _ _ _ _ _ (by omega), other_cell _ _ _ _ _ (by omega), other_cell _ _ _ _ _ (by omega), other_cell _ _ _ _ _ (by omega), other_cell _ _ _ _ _ (by omega)]
      exact h.c8
    · rw [other_cell _ _ _ _ _ (by omega)]
      refine same_cell (u := .int .i64 x0.1.wr) ?_
      rw [other_cell _ _ _ _ _ (by omega), other_cell _ _ _ _ _ (by omega), other_cell _ _ _ _ _ (by omega), other_cell _ _ _ _ _ (by omega), other_cell _ _ _ _ _ (by omega), other_cell _ _ _ _ _ (by omega), other_cell _ _ _ _ _ (by omega), other_cell _ _ _ _ _ (by omega), other_cell _ _ _ _ _ (by omega)]
      exact h.c9
    · refine same_cell (u := .int .i64 n0) ?_
      rw [other_cell _ _ _ _ _ (by omega), other_cell _ _ _ _ _ (by omega), other_cell _ _ _ _ _ (by omega), other_cell _ _ _ _ _ (by omega), other_cell _ _ _ _ _ (by omega), other_cell _ _ _ _ _ (by omega), other_cell _ _ _ _ _ (by omega), other_cell _ _ _ _ _ (by omega), other_cell _ _ _ _ _ (by omega), other_cell _ _ _ _ _ (by omega)]
      exact h.c10
  · unfold put11
    exact ((((((((((Stay.setCell (O := fun k => k = B) w _ _ rfl).then_same (Stay.setCell _ _ _ rfl)).then_same (Stay.setCell _ _ _ rfl)).then_same (Stay.setCell _ _ _ rfl)).then_same (Stay.setCell _ _ _ rfl)).then_same (Stay.setCell _ _ _ rfl)).then_same (Stay.setCell _ _ _ rfl)).then_same (Stay.setCell _ _ _ rfl)).then_same (Stay.setCell _ _ _ rfl)).then_same (Stay.setCell _ _ _ rfl)).then_same (Stay.setCell _ _ _ rfl)

/-- What a space of the call's own is made of: all of it ahead of M. -/
structure OwnM (base M : Nat) (w : World) (s : Sp) (N L : RS) (ps : List NR) (g gl : Option Nat) : Prop where
  lot : Lot base w N.a N.n N.c ps g
  map : ps.map (·.1) = s.ns
  lo : LO base w L.a L.n L.c s.ls gl
  gl1 : ∀ k, g = some k → gl ≠ some k
  gl2 : ∀ x ∈ ps, ∀ k, x.2.blk = some k → gl ≠ some k
  lt1 : ∀ k, g = some k → k < M
  lt2 : ∀ k, gl = some k → k < M
  lt3 : ∀ x ∈ ps, ∀ k, x.2.blk = some k → k < M
theorem OwnM.below {base M : Nat} {w w' : World} {s : Sp} {N L : RS} {ps : List NR} {g gl : Option Nat} (h : OwnM base M w s N L ps g gl) (hb : Below w.heap.size w w') : OwnM base M w' s N L ps g gl :=
  ⟨h.lot.below hb, h.map, h.lo.below hb, h.gl1, h.gl2, h.lt1, h.lt2, h.lt3⟩
theorem OwnM.mono {b1 b2 M : Nat} {w : World} {s : Sp} {N L : RS} {ps : List NR} {g gl : Option Nat} (h : OwnM b1 M w s N L ps g gl) (hb : b2 ≤ b1) : OwnM b2 M w s N L ps g gl :=
  ⟨h.lot.mono hb, h.map, h.lo.mono hb, h.gl1, h.gl2, h.lt1, h.lt2, h.lt3⟩
theorem OwnM.up {base M M2 : Nat} {w : World} {s : Sp} {N L : RS} {ps : List NR} {g gl : Option Nat} (h : OwnM base M w s N L ps g gl) (hM : M ≤ M2) : OwnM base M2 w s N L ps g gl :=
  ⟨h.lot, h.map, h.lo, h.gl1, h.gl2, fun k hk => Nat.lt_of_lt_of_le (h.lt1 k hk) hM, fun k hk => Nat.lt_of_lt_of_le (h.lt2 k hk) hM, fun x hx k hk => Nat.lt_of_lt_of_le (h.lt3 x hx k hk) hM⟩
theorem Own.m {base : Nat} {w : World} {s : Sp} {N L : RS} {ps : List NR} {g gl : Option Nat} (h : Own base w s N L ps g gl) : OwnM base w.heap.size w s N L ps g gl :=
  ⟨h.lot, h.map, h.lo, h.gl1, h.gl2, fun k hk => by have := h.lot.cel; rw [hk] at this; exact this.lt.1, fun k hk => (h.lo.own k hk).1, fun x hx k hk => (h.lot.ok x hx).ok.bs.lt k hk⟩
theorem OwnM.out {base M : Nat} {O : Nat → Prop} {w w' : World} {s : Sp} {N L : RS} {ps : List NR} {g gl : Option Nat} (h : OwnM base M w s N L ps g gl) (hs : Stay O w w') (hO : ∀ k, O k → k < base ∨ M ≤ k) : OwnM base M w' s N L ps g gl := by
  have hg : ∀ k, g = some k → k < w.heap.size ∧ base ≤ k := fun k hk => by have := h.lot.cel; rw [hk] at this; exact this.lt
  refine ⟨h.lot.stay hs.size (fun k hk => hs.block k (hg k hk).1 (fun e => ?_)) (fun x hx k hk => hs.block k ((h.lot.ok x hx).ok.bs.lt k hk) (fun e => ?_)), h.map, ?_, h.gl1, h.gl2, h.lt1, h.lt2, h.lt3⟩
  · have := hO k e; have := (hg k hk).2; have := h.lt1 k hk; omega
  · have := hO k e; have := (h.lot.ok x hx).blk_ge k hk; have := h.lt3 x hx k hk; omega
  · have ho := h.lo.own
    exact ⟨h.lo.cel.stay hs.size (fun k hk => hs.block k (ho k hk).1 (fun e => by have := hO k e; have := (ho k hk).2; have := h.lt2 k hk; omega)) (fun _ e => e), h.lo.len⟩

theorem Free.out {base : Nat} {O : Nat → Prop} {w w' : World} {x : NR} (h : Free base w x) (hs : Stay O w w') (hO : ∀ k, O k → k < base) : Free base w' x :=
  Stay.free h hs (fun k hk e => by have := hO k e; have := h.blk_ge k hk; omega)

/-- One node of a space of the call's own is another one now. -/
theorem Own.upd {base : Nat} {O : Nat → Prop} {w w' : World} {s : Sp} {N L : RS} {ps : List NR} {gb : Nat} {gl : Option Nat} (h : Own base w s N L ps (some gb) gl) {i : Nat} (hi : i < ps.length) (y : NR)
    (hC : Cel (fun k => base ≤ k) w' 5 (.slice N.a N.n N.c) N.n (rowC ndC (ps.set i y)) (some gb)) (hF : Free base w' y) (hS : Stay O w w') (hO : ∀ k, k < w.heap.size → O k → k = gb ∨ ps[i].2.blk = some k)
    (hb : ∀ k, y.2.blk = some k → ps[i].2.blk = some k ∨ w.heap.size ≤ k) : Own base w' ⟨s.tx, s.nb, s.ng, s.now, s.ns.set i y.1, s.ls⟩ N L (ps.set i y) (some gb) gl := by
  have hgb := h.lot.cel.lt
  have hlt : ∀ x ∈ ps, ∀ k, x.2.blk = some k → k < w.heap.size := fun x hx k hk => (h.lot.ok x hx).ok.bs.lt k hk
  have hmi : ps[i] ∈ ps := List.getElem_mem hi
  have hsep : ∀ j (hj : j < ps.length), j ≠ i → ∀ k, ps[j].2.blk = some k → ps[i].2.blk ≠ some k := fun j hj hne k hk e => by
    have hp := List.pairwise_iff_getElem.1 h.sep
    rcases Nat.lt_or_gt_of_ne hne with hl | hl
    · exact hp j i hj hi hl k hk e
    · exact hp i j hi hj hl k e hk
  have hyn : ∀ j (hj : j < ps.length), j ≠ i → ∀ k, ps[j].2.blk = some k → y.2.blk ≠ some k := fun j hj hne k hk e => by
    rcases hb k e with e2 | e2
    · exact hsep j hj hne k hk e2
    · have := hlt _ (List.getElem_mem hj) k hk; omega
  have hmem : ∀ z ∈ ps.set i y, z = y ∨ ∃ j, ∃ hj : j < ps.length, j ≠ i ∧ z = ps[j] := fun z hz => by
    obtain ⟨j, hj, rfl⟩ := List.getElem_of_mem hz
    rw [List.length_set] at hj
    by_cases e : j = i
    · subst e; exact .inl (List.getElem_set_self _)
    · exact .inr ⟨j, hj, e, List.getElem_set_ne (fun e2 => e e2.symm) _⟩
  refine ⟨⟨hC, by rw [List.length_set]; exact h.lot.len, fun z hz => ?_, fun z hz k hk => ?_⟩, by rw [List.map_set, h.map], ?_, ?_, h.gl1, fun z hz k hk => ?_⟩
  · rcases hmem z hz with rfl | ⟨j, hj, hne, rfl⟩
    · exact hF
    · refine Stay.free (h.lot.ok _ (List.getElem_mem hj)) hS (fun k hk e => ?_)
      rcases hO k (hlt _ (List.getElem_mem hj) k hk) e with rfl | e2
      · exact h.lot.ap _ (List.getElem_mem hj) k rfl hk
      · exact hsep j hj hne k hk e2
  · cases hk
    rcases hmem z hz with rfl | ⟨j, hj, hne, rfl⟩
    · intro e
      rcases hb gb e with e2 | e2
      · exact h.lot.ap _ hmi gb rfl e2
      · have := hgb.1; omega
    · exact h.lot.ap _ (List.getElem_mem hj) gb rfl
  · have ho := h.lo.own
    refine ⟨h.lo.cel.stay hS.size (fun k hk => hS.block k (ho k hk).1 (fun e => ?_)) (fun _ e => e), h.lo.len⟩
    rcases hO k (ho k hk).1 e with rfl | e2
    · exact h.gl1 k rfl hk
    · exact h.gl2 _ hmi k e2 hk
  · rw [List.pairwise_iff_getElem]
    intro a b ha0 hb0 hab
    have ha : a < ps.length := by simpa using ha0
    have hb2 : b < ps.length := by simpa using hb0
    have hp := List.pairwise_iff_getElem.1 h.sep
    by_cases e1 : a = i
    · subst e1
      rw [List.getElem_set_self, List.getElem_set_ne (by omega)]
      intro k hk e
      exact hyn b hb2 (by omega) k e hk
    · rw [List.getElem_set_ne (fun e => e1 e.symm)]
      by_cases e2 : b = i
      · subst e2
        rw [List.getElem_set_self]
        intro k hk e
        exact hyn a ha (by omega) k hk e
      · rw [List.getElem_set_ne (fun e => e2 e.symm)]
        exact hp a b ha hb2 hab
  · rcases hmem z hz with rfl | ⟨j, hj, hne, rfl⟩
    · rcases hb k hk with e2 | e2
      · exact h.gl2 _ hmi k e2
      · intro e
        have := (h.lo.own k e).1
        omega
    · exact h.gl2 _ (List.getElem_mem hj) k hk

/-- One number of a node is written. -/
theorem Cel.setF {O : Nat → Prop} {w : World} {g n c : Nat} {a : Option Addr} {ps : List NR} (h : Cel O w 5 (.slice a n c) n (rowC ndC ps) (some g)) (hn : ps.length = n) {i : Nat} (hi : i < ps.length) (o : Nat) (ho : o < 5) (v : Value) (y : NR) (hy : ∀ j, (ndC y)[j]? = if j = o then some v else (ndC ps[i])[j]?) :
    Cel O (w.setCell ⟨g, i * 5 + o, none⟩ v) 5 (.slice a n c) n (rowC ndC (ps.set i y)) (some g) := by
  have hc := h.cap2.1
  have h1 : (i + 1) * 5 ≤ c * 5 := Nat.mul_le_mul_right _ (by omega)
  have hl : (rowC ndC (ps.set i y)).length = n * 5 := by rw [rowC_len wideX, List.length_set, hn]
  refine h.setCells (i * 5 + o) [v] (by simp; omega) n _ hc hl (fun q hq => ?_)
  rw [← List.getElem?_eq_getElem hq]
  rw [hl] at hq
  have e := rowC_at wideX (ps.set i y) (q / 5) (by rw [List.length_set]; omega) (q % 5) (by omega)
  have e' := rowC_at wideX ps (q / 5) (by omega) (q % 5) (by omega)
  have e2 : q / 5 * 5 + q % 5 = q := by omega
  rw [e2] at e e'
  rw [e, e', List.length_singleton]
  by_cases hqi : q / 5 = i
  · subst hqi
    rw [List.getElem_set_self, hy]
    by_cases h0 : q % 5 = o
    · rw [if_pos (by omega), if_pos h0, show q - (q / 5 * 5 + o) = 0 by omega]; rfl
    · rw [if_neg (by omega), if_neg h0]
  · rw [if_neg (by omega), List.getElem_set_ne (fun e => hqi e.symm)]

/-- Ahead of an edit: the space lies in the block S, its nodes' row in gb, all of it from base on. -/
structure Pre (base M0 S : Nat) (w : World) (s : Sp) (N L : RS) (ps : List NR) (gb : Nat) (gl : Option Nat) : Prop where
  c : SpC w S s N L
  own : Own base w s N L ps (some gb) gl
  na : N.a = some ⟨gb, 0, none⟩
  sb : S < base
  bw : base ≤ w.heap.size
  m1 : gb < M0
  m2 : ∀ k, gl = some k → k < M0
  m3 : ∀ x ∈ ps, ∀ k, x.2.blk = some k → k < M0
  mw : M0 ≤ w.heap.size
theorem Pre.below {base M0 S : Nat} {w w' : World} {s : Sp} {N L : RS} {ps : List NR} {gb : Nat} {gl : Option Nat} (h : Pre base M0 S w s N L ps gb gl) (hb : Below w.heap.size w w') : Pre base M0 S w' s N L ps gb gl :=
  ⟨h.c.below hb, h.own.below hb, h.na, h.sb, Nat.le_trans h.bw hb.size, h.m1, h.m2, h.m3, Nat.le_trans h.mw hb.size⟩
theorem Pre.lies {base M0 S : Nat} {w : World} {s : Sp} {N L : RS} {ps : List NR} {gb : Nat} {gl : Option Nat} (h : Pre base M0 S w s N L ps gb gl) (hp : 0 < ps.length) : Lies w S gb N.n N.c ps := by
  obtain ⟨b, hb⟩ := h.own.lot.nds
  have h4 := h.c.c4
  rw [h.na] at h4
  have ha := hb.addr hp
  rw [h.na] at ha hb
  cases ha
  exact ⟨h4, hb, h.own.lot.len⟩

/-- What stays while an edit is made. -/
def Chg (S base M0 : Nat) : Nat → Prop := fun k => k = S ∨ (base ≤ k ∧ k < M0)
/-- The space's blocks are old ones or new. -/
def NewB (M0 n : Nat) (g gl : Option Nat) (ps : List NR) : Prop := (∀ k, g = some k → k < M0 ∨ n ≤ k) ∧ (∀ k, gl = some k → k < M0 ∨ n ≤ k) ∧ (∀ x ∈ ps, ∀ k, x.2.blk = some k → k < M0 ∨ n ≤ k)
/-- An edit is made: the space t lies in S, all of it ahead of M; the answer's node behind it. -/
structure DoneR (S base M0 : Nat) (t : Sp) (b : Blk) (x : Nd) (w : World) (r : Ending) (w' : World) : Prop where
  ex : ∃ N L ps g gl M sx, r = .returned (anV 0 b noS (x, sx) 0) ∧ SpC w' S t N L ∧ OwnM base M w' t N L ps g gl ∧ Free M w' (x, sx) ∧ base ≤ M ∧ NewB M0 w.heap.size g gl ps ∧ (∀ k, sx.blk = some k → w.heap.size ≤ k)
  st : Stay (Chg S base M0) w w'
/-- The same without an answer. -/
structure UnitR (S base M0 : Nat) (t : Sp) (w : World) (r : Ending) (w' : World) : Prop where
  ex : ∃ N L ps g gl, r = .returned (.tuple #[]) ∧ SpC w' S t N L ∧ OwnM base w'.heap.size w' t N L ps g gl ∧ NewB M0 w.heap.size g gl ps
  st : Stay (Chg S base M0) w w'

end Go.Proofs.YticiihjkgiookaaGreat.Spa

/- The contract of space.complete. -/
namespace Go.Proofs.YticiihjkgiookaaGreat.Spa
open Go.RowKit Go.Proofs.YticiihjkgiookaaGreat
open Go.Proofs.YticiihjkgiookaaGreat.Lea (LS Ls findX putL renX LL LO LsR lsC wideL)
open Go.Proofs.YticiihjkgiookaaGreat.Edi (Ed Nm EdAt edV)

section
variable {base M0 S : Nat} {w w' : World} {s : Sp} {N L : RS} {ps : List NR} {gb : Nat} {gl : Option Nat}

theorem rowC_same {ps : List NR} {i : Nat} (hi : i < ps.length) (y : NR) (hy : ndC y = ndC ps[i]) : rowC ndC (ps.set i y) = rowC ndC ps := by
  have e : ps.set i y = ps.take i ++ y :: ps.drop (i + 1) := by rw [List.set_eq_take_append_cons_drop, if_pos hi]
  have e2 : ps = ps.take i ++ ps[i] :: ps.drop (i + 1) := by rw [← List.drop_eq_getElem_cons hi, List.take_append_drop]
  rw [e]
  conv => rhs; rw [e2]
  rw [rowC_app, rowC_app, rowC_cons, rowC_cons, hy]

theorem SpC.ns {w : World} {b : Nat} {s : Sp} {N L : RS} (h : SpC w b s N L) (ns : NS) (ls : LS) : SpC w b ⟨s.tx, s.nb, s.ng, s.now, ns, ls⟩ N L := ⟨h.c0, h.c1, h.c2, h.c3, h.c4, h.c5, h.fr⟩

theorem set_snd {ps : List NR} {i : Nat} (hi : i < ps.length) {y : Nd} {x : NR} (hx : x ∈ ps.set i (y, ps[i].2)) : ∃ z ∈ ps, x.2 = z.2 := by
  rcases List.mem_or_eq_of_mem_set hx with h | rfl
  · exact ⟨x, h, rfl⟩
  · exact ⟨ps[i], List.getElem_mem hi, rfl⟩
/-- Its blocks are others now. -/
theorem Pre.setBs (h : Pre base M0 S w s N L ps gb gl) {i : Nat} (hi : i < ps.length) (bs : List Blk) (hF : Free base w' (withBs ps[i].1 bs, ps[i].2)) (hS : Stay (fun k => ps[i].2.blk = some k) w w') :
    Pre base M0 S w' ⟨s.tx, s.nb, s.ng, s.now, s.ns.set i (withBs ps[i].1 bs), s.ls⟩ N L (ps.set i (withBs ps[i].1 bs, ps[i].2)) gb gl := by
  have hmi : ps[i] ∈ ps := List.getElem_mem hi
  have hC : Cel (fun k => base ≤ k) w' 5 (.slice N.a N.n N.c) N.n (rowC ndC (ps.set i (withBs ps[i].1 bs, ps[i].2))) (some gb) := by
    rw [rowC_same hi (withBs ps[i].1 bs, ps[i].2) rfl]
    exact h.own.lot.cel.stay hS.size (fun k hk => hS.block k (by cases hk; exact h.own.lot.cel.lt.1) (fun e => h.own.lot.ap _ hmi k hk e)) (fun _ e => e)
  refine ⟨(h.c.keep hS (fun e => ?_)).ns _ _, h.own.upd hi _ hC hF hS (fun k _ e => .inr e) (fun k hk => .inl hk), h.na, h.sb, Nat.le_trans h.bw hS.size, h.m1, h.m2, fun z hz k hk => (by obtain ⟨u, hu, e⟩ := set_snd hi hz; exact h.m3 u hu k (by rw [← e]; exact hk)), Nat.le_trans h.mw hS.size⟩
  have := (h.own.lot.ok _ hmi).blk_ge S e
  have := h.sb
  omega
theorem Pre.setF (h : Pre base M0 S w s N L ps gb gl) {i : Nat} (hi : i < ps.length) (o : Nat) (ho : o < 5) (v : Value) (y : Nd) (hy : ∀ j, (ndC (y, ps[i].2))[j]? = if j = o then some v else (ndC ps[i])[j]?) (hb : y.bs = ps[i].1.bs) (hp : y.path.size ≤ maxLen) :
    Pre base M0 S (w.setCell ⟨gb, i * 5 + o, none⟩ v) ⟨s.tx, s.nb, s.ng, s.now, s.ns.set i y, s.ls⟩ N L (ps.set i (y, ps[i].2)) gb gl ∧ Stay (fun k => k = gb) w (w.setCell ⟨gb, i * 5 + o, none⟩ v) := by
  have hmi : ps[i] ∈ ps := List.getElem_mem hi
  have hS : Stay (fun k => k = gb) w (w.setCell ⟨gb, i * 5 + o, none⟩ v) := Stay.setCell _ _ _ rfl
  have hF0 := Stay.free (h.own.lot.ok _ hmi) hS (fun k hk e => by subst e; exact h.own.lot.ap _ hmi k rfl hk)
  have hF : Free base (w.setCell ⟨gb, i * 5 + o, none⟩ v) (y, ps[i].2) := by
    refine ⟨⟨hp, ?_⟩, hF0.own⟩
    show Blks _ ps[i].2 y.bs
    rw [hb]; exact hF0.ok.bs
  refine ⟨⟨(h.c.keep hS (fun e => ?_)).ns _ _, h.own.upd hi _ (Cel.setF h.own.lot.cel h.own.lot.len hi o ho v _ hy) hF hS (fun k _ e => .inl e) (fun k hk => .inl hk), h.na, h.sb, Nat.le_trans h.bw hS.size, h.m1, h.m2, fun z hz k hk => (by obtain ⟨u, hu, e⟩ := set_snd hi hz; exact h.m3 u hu k (by rw [← e]; exact hk)), Nat.le_trans h.mw hS.size⟩, hS⟩
  have := h.own.lot.cel.lt.2
  have := h.sb
  omega
theorem Pre.lt (h : Pre base M0 S w s N L ps gb gl) : gb < w.heap.size ∧ base ≤ gb ∧ S < w.heap.size ∧ gb < M0 ∧ M0 ≤ w.heap.size := ⟨h.own.lot.cel.lt.1, h.own.lot.cel.lt.2, World.block_lt_of_cell? _ _ h.c.c0, h.m1, h.mw⟩

theorem Pre.bs' (h : Pre base M0 S w s N L ps gb gl) {i : Nat} {x : Nd} {r : RS} (hX : ps[i]? = some (x, r)) (bs : List Blk) (hF : Free base w' (withBs x bs, r)) (hS : Stay (fun k => r.blk = some k) w w') :
    Pre base M0 S w' ⟨s.tx, s.nb, s.ng, s.now, s.ns.set i (withBs x bs), s.ls⟩ N L (ps.set i (withBs x bs, r)) gb gl := by
  obtain ⟨hi, e⟩ := List.getElem?_eq_some_iff.1 hX
  have e1 : ps[i].1 = x := by rw [e]
  have e2 : ps[i].2 = r := by rw [e]
  have := h.setBs (w' := w') hi bs (by rw [e1, e2]; exact hF) (by rw [e2]; exact hS)
  rw [e1, e2] at this
  exact this
theorem Pre.f' (h : Pre base M0 S w s N L ps gb gl) {i : Nat} {x : Nd} {r : RS} (hX : ps[i]? = some (x, r)) (o : Nat) (ho : o < 5) (v : Value) (y : Nd) (hy : ∀ j, (ndC (y, r))[j]? = if j = o then some v else (ndC (x, r))[j]?) (hb : y.bs = x.bs) (hp : y.path.size ≤ maxLen) :
    Pre base M0 S (w.setCell ⟨gb, i * 5 + o, none⟩ v) ⟨s.tx, s.nb, s.ng, s.now, s.ns.set i y, s.ls⟩ N L (ps.set i (y, r)) gb gl ∧ Stay (fun k => k = gb) w (w.setCell ⟨gb, i * 5 + o, none⟩ v) := by
  obtain ⟨hi, e⟩ := List.getElem?_eq_some_iff.1 hX
  have e1 : ps[i].1 = x := by rw [e]
  have e2 : ps[i].2 = r := by rw [e]
  have := h.setF hi o ho v y (by rw [e2, e]; exact hy) (by rw [e1]; exact hb) hp
  rw [e2] at this
  exact this
theorem Lies.at' {w : World} {S gb n c : Nat} {ps : List NR} (h : Lies w S gb n c ps) {i : Nat} {X : NR} (hX : ps[i]? = some X) : NdAt w gb i X := by
  obtain ⟨hi, rfl⟩ := List.getElem?_eq_some_iff.1 hX
  exact h.at hi
theorem is_at' {ps : List NR} {p : ByteArray} {i : Nat} {x : Nd} (hi : Is (ps.map (·.1)) p i x) : ∃ r, ps[i]? = some (x, r) := by
  obtain ⟨h1, h2⟩ := is_at hi
  exact ⟨ps[i].2, by rw [List.getElem?_eq_getElem h1, ← h2]⟩
theorem set_at' {ps : List NR} {i : Nat} {X : NR} (hX : ps[i]? = some X) (Y : NR) : (ps.set i Y)[i]? = some Y := by
  obtain ⟨hi, _⟩ := List.getElem?_eq_some_iff.1 hX
  rw [List.getElem?_set_self hi]
theorem Pre.free' (h : Pre base M0 S w s N L ps gb gl) {i : Nat} {X : NR} (hX : ps[i]? = some X) : Free base w X ∧ X.2.blk ≠ some gb ∧ i < N.n ∧ 0 < ps.length ∧ ∀ o, o < 5 → w.frozen? ⟨gb, i * 5 + o, none⟩ = false := by
  have hm := List.mem_of_getElem? hX
  obtain ⟨hi, _⟩ := List.getElem?_eq_some_iff.1 hX
  have hl := h.own.lot.len
  have hcap := h.own.lot.cel.cap2.1
  refine ⟨h.own.lot.ok _ hm, fun e => h.own.lot.ap _ hm gb rfl e, by omega, by omega, fun o ho => ?_⟩
  have h5 : (i + 1) * 5 ≤ N.c * 5 := Nat.mul_le_mul_right _ (by omega)
  exact (h.own.lot.cel.live (i * 5 + o) (by omega)).2
theorem Pre.m (h : Pre base M0 S w s N L ps gb gl) : (∀ k, some gb = some k → k < w.heap.size) ∧ (∀ k, gl = some k → k < w.heap.size) ∧ (∀ x ∈ ps, ∀ k, x.2.blk = some k → k < w.heap.size) := ⟨h.own.m.lt1, h.own.m.lt2, h.own.m.lt3⟩
theorem set_blk {ps : List NR} {i : Nat} {x y : Nd} {r : RS} (hX : ps[i]? = some (x, r)) {M : Nat} (h : ∀ x ∈ ps, ∀ k, x.2.blk = some k → k < M) : ∀ z ∈ ps.set i (y, r), ∀ k, z.2.blk = some k → k < M := fun z hz k hk => by
  rcases List.mem_or_eq_of_mem_set hz with hz | rfl
  · exact h z hz k hk
  · exact h (x, r) (List.mem_of_getElem? hX) k hk

theorem OwnM.out2 {base M : Nat} {O : Nat → Prop} {w w' : World} {s : Sp} {N L : RS} {ps : List NR} {g gl : Option Nat} (h : OwnM base M w s N L ps g gl) (hs : Stay O w w') (h1 : ∀ k, g = some k → ¬ O k) (h2 : ∀ k, gl = some k → ¬ O k) (h3 : ∀ x ∈ ps, ∀ k, x.2.blk = some k → ¬ O k) : OwnM base M w' s N L ps g gl := by
  have hg : ∀ k, g = some k → k < w.heap.size ∧ base ≤ k := fun k hk => by have := h.lot.cel; rw [hk] at this; exact this.lt
  have ho := h.lo.own
  exact ⟨h.lot.stay hs.size (fun k hk => hs.block k (hg k hk).1 (h1 k hk)) (fun x hx k hk => hs.block k ((h.lot.ok x hx).ok.bs.lt k hk) (h3 x hx k hk)), h.map, ⟨h.lo.cel.stay hs.size (fun k hk => hs.block k (ho k hk).1 (h2 k hk)) (fun _ e => e), h.lo.len⟩, h.gl1, h.gl2, h.lt1, h.lt2, h.lt3⟩
/-- Where all of it lies ahead of M. -/
theorem Own.at {base M : Nat} {w : World} {s : Sp} {N L : RS} {ps : List NR} {g gl : Option Nat} (h : Own base w s N L ps g gl) (h1 : ∀ k, g = some k → k < M) (h2 : ∀ k, gl = some k → k < M) (h3 : ∀ x ∈ ps, ∀ k, x.2.blk = some k → k < M) : OwnM base M w s N L ps g gl :=
  ⟨h.lot, h.map, h.lo, h.gl1, h.gl2, h1, h2, h3⟩
end

/-- The end of an edit with an answer: the answer is laid down. -/
theorem DoneR.mk2 {S base M0 M : Nat} {w w4 : World} {t : Sp} {N L : RS} {ps : List NR} {g gl : Option Nat} {b : Blk} {x : Nd} {sx : RS} {B : Nat} {E0 : Int} {b0 : Blk} {T0 : RS} {x0 : NR} {n0 : Int} (hA : AnC w4 B E0 b0 T0 x0 n0) (hC : SpC w4 S t N L) (hO : OwnM base M w4 t N L ps g gl) (hF : Free M w4 (x, sx)) (hM : base ≤ M) (hst : Stay (Chg S base M0) w w4) (hB : w.heap.size ≤ B) (_hbw : base ≤ w.heap.size) (hS : S < w.heap.size)
    (h1 : ∀ k, g = some k → k ≠ B ∧ (k < M0 ∨ w.heap.size ≤ k)) (h2 : ∀ k, gl = some k → k ≠ B ∧ (k < M0 ∨ w.heap.size ≤ k)) (h3 : ∀ x ∈ ps, ∀ k, x.2.blk = some k → k ≠ B ∧ (k < M0 ∨ w.heap.size ≤ k)) (h4 : ∀ k, sx.blk = some k → k ≠ B ∧ w.heap.size ≤ k) :
    AnC (put11 w4 B 0 b noS (x, sx) 0) B 0 b noS (x, sx) 0 ∧ DoneR S base M0 t b x w (.returned (anV 0 b noS (x, sx) 0)) (put11 w4 B 0 b noS (x, sx) 0) := by
  obtain ⟨a1, a2⟩ := put11_at hA 0 b noS (x, sx) 0
  refine ⟨a1, ⟨N, L, ps, g, gl, M, sx, rfl, hC.keep a2 (by omega), hO.out2 a2 (fun k hk => (h1 k hk).1) (fun k hk => (h2 k hk).1) (fun x hx k hk => (h3 x hx k hk).1), Stay.free hF a2 (fun k hk => (h4 k hk).1), hM, ⟨fun k hk => (h1 k hk).2, fun k hk => (h2 k hk).2, fun x hx k hk => (h3 x hx k hk).2⟩, fun k hk => (h4 k hk).2⟩, hst.trans a2 (fun k hk e => ?_)⟩
  omega

set_option maxRecDepth 100000 in
set_option maxHeartbeats 4000000 in
theorem complete_ok {base M0 S : Nat} {w : World} {s : Sp} {N L : RS} {ps : List NR} {gb : Nat} {gl : Option Nat} (h : Pre base M0 S w s N L ps gb gl) (e : Ed) (ea : Option Addr) (em eq : Nat) (hn : Nm w ea em e.ls) (hnb : ∀ ad, ea = some ad → 0 < em → ad.block < base) (hs : e.p.size ≤ maxLen) (i : Nat) (x : Nd) (hw : Wr s e i x) (hl : LenOk x.bs e.ls) (h8 : x.bs.length ≤ 8) :
    Calls Tryz.prog 49 #[.pointer (some ⟨S, 0, none⟩), edV e ea em eq] w fun r w' => DoneR S base M0 ⟨s.tx, s.nb, s.ng, s.now, s.ns.set i (withWr (withBs x (setLens x.bs e.ls)) (-1)), s.ls⟩ zeroB (withWr (withBs x (setLens x.bs e.ls)) (-1)) w r w' := by
  have hiq : Is (ps.map (·.1)) e.p i x := by rw [h.own.map]; exact hw.is
  obtain ⟨r, hX⟩ := is_at' hiq
  obtain ⟨hF0, hg0, hiN, hpos, _⟩ := h.free' hX
  have hrn : x.bs.length = r.n := hF0.ok.bs.len
  have hxs : x.path.size ≤ maxLen := hF0.ok.small
  have CW : Hid (∀ W, Below w.heap.size w W → Calls Tryz.prog 93 #[.pointer (some ⟨S, 0, none⟩), edV e ea em eq] W fun e w' => e = .returned (.pointer (some ⟨gb, i * 5, none⟩)) ∧ Below W.heap.size W w') := fun W hb => written_ok ((h.below hb).lies hpos) e ea em eq hs i x hiq hw.dir hw.wr
  have CS : Hid (∀ W, Below w.heap.size w W → Calls Tryz.prog 94 #[.pointer (some ⟨gb, i * 5, none⟩), .slice ea em eq] W fun r' w' => r' = .returned (.tuple #[]) ∧ Free base w' (withBs x (setLens x.bs e.ls), r) ∧ Stay (fun k => r.blk = some k) W w') := fun W hb => by
    have hP := h.below hb
    obtain ⟨hF, hg, _, _, _⟩ := hP.free' hX
    refine setLengths_ok (x := x) (s := r) hF ((hP.lies hpos).at' hX).c3 hg (hn.below hb) (fun ad had hp e => ?_) hl (by omega)
    have := hF.blk_ge _ e
    have := hnb ad had hp
    omega
  have HX : Hid (ps[i]? = some (x, r)) := hX
  have HPRE : Hid (Pre base M0 S w s N L ps gb gl) := h
  have HRN : Hid (x.bs.length = r.n ∧ r.n ≤ 8) := ⟨hrn, by omega⟩
  have HLEN : Hid ((setLens x.bs e.ls).length = r.n) := by show _ = _; rw [setLens_len _ _ hl.len]; exact hrn
  obtain ⟨k, p, t, cl, l, nn, ls⟩ := e
  obtain ⟨xp, xd, xq, xb, xw⟩ := x
  obtain ⟨ra, rn, rc⟩ := r
  simp only at CS HX HRN HLEN hxs ⊢
  have HN2 : Hid (∀ w1 w2, Below w.heap.size w w1 → Free base w2 (⟨xp, xd, xq, setLens xb ls, xw⟩, ⟨ra, rn, rc⟩) → Stay (fun k => (⟨ra, rn, rc⟩ : RS).blk = some k) w1 w2 → Pre base M0 S w2 ⟨s.tx, s.nb, s.ng, s.now, s.ns.set i ⟨xp, xd, xq, setLens xb ls, xw⟩, s.ls⟩ N L (ps.set i (⟨xp, xd, xq, setLens xb ls, xw⟩, ⟨ra, rn, rc⟩)) gb gl) := fun w1 w2 hb hF hS => (HPRE.out.below hb).bs' HX.out _ hF hS
  have HN3 : Hid (∀ w2, Pre base M0 S w2 ⟨s.tx, s.nb, s.ng, s.now, s.ns.set i ⟨xp, xd, xq, setLens xb ls, xw⟩, s.ls⟩ N L (ps.set i (⟨xp, xd, xq, setLens xb ls, xw⟩, ⟨ra, rn, rc⟩)) gb gl → Pre base M0 S (w2.setCell ⟨gb, i * 5 + 4, none⟩ (.int .i64 (-1))) ⟨s.tx, s.nb, s.ng, s.now, s.ns.set i ⟨xp, xd, xq, setLens xb ls, -1⟩, s.ls⟩ N L (ps.set i (⟨xp, xd, xq, setLens xb ls, -1⟩, ⟨ra, rn, rc⟩)) gb gl ∧ Stay (fun k => k = gb) w2 (w2.setCell ⟨gb, i * 5 + 4, none⟩ (.int .i64 (-1)))) := fun w2 hP => by
    have := hP.f' (set_at' HX.out _) 4 (by omega) (.int .i64 (-1)) ⟨xp, xd, xq, setLens xb ls, -1⟩ (fun j => by
      match j with
      | 0 => rfl
      | 1 => rfl
      | 2 => rfl
      | 3 => rfl
      | 4 => rfl
      | j + 5 => rfl) rfl hxs
    rw [List.set_set, List.set_set] at this
    exact this
  have CC : Hid (∀ W, Free base W (⟨xp, xd, xq, setLens xb ls, -1⟩, ⟨ra, rn, rc⟩) → Calls Tryz.prog 31 #[.agg #[.string xp, .bool xd, .int .i64 xq, .slice ra rn rc, .int .i64 (-1)]] W fun e w' => CopyR W.heap.size ⟨xp, xd, xq, setLens xb ls, -1⟩ e w' ∧ Below W.heap.size W w') := fun W hF => copiedNode_val (⟨xp, xd, xq, setLens xb ls, -1⟩, ⟨ra, rn, rc⟩) W hF.ok (by show rn * 24 ≤ _; have := HRN.out.2; omega)
  unfold edV at CW ⊢
  simp only at CW ⊢
  have hst := run_store_str
  have hst2 : ∀ (w : World) (a : Addr) (x : Option Addr) (n c : Nat) (m : Mode), (store a (.slice x n c) m).run Tryz.prog w = stored Tryz.prog w a (.slice x n c) m := fun w a x n c m => run_store_any w a _ m rfl
  clear h hn hnb hs hw hl h8 hiq hX hF0 hg0 hiN hpos hrn hxs
  unfold withBs at CS
  simp only at CS
  go_enter Tryz.func49, Tryz.ntmps49
  go_wp2_with (first
    | (go_at_call 93; refine (CW.out _ (bel_tr (bel_al _ _) (bel_al _ _))).mono ?_; rintro e w1 ⟨rfl, c1⟩; obtain ⟨q1, q2, q3, q4, q5, q6⟩ := two_boxes c1; have y6 := q1 6 _ rfl; have B1 : Hid (Below w.heap.size w w1) := q5; have HAN : Hid (AnC w1 (w.heap.size + 1) 0 zeroB noS zeroX 0) := ⟨q3 0 _ rfl, q3 1 _ rfl, q3 2 _ rfl, q3 3 _ rfl, q3 4 _ rfl, q3 5 _ rfl, q3 6 _ rfl, q3 7 _ rfl, q3 8 _ rfl, q3 9 _ rfl, q3 10 _ rfl, q4⟩; have HSZ : Hid (w.heap.size + 2 ≤ w1.heap.size) := q6; clear c1 q1 q2 q3 q4 q5 q6)
    | (go_at_call 94; refine (CS.out _ B1.out).mono ?_; rintro e w2 ⟨rfl, hF2, hS2⟩; have hP2 := HN2.out w1 w2 B1.out hF2 hS2; obtain ⟨n0, n1, n2, n3, n4⟩ := (hP2.lies (hP2.free' (set_at' HX.out _)).2.2.2.1).at' (set_at' HX.out _); have hfz := (hP2.free' (set_at' HX.out _)).2.2.2.2 4 (by omega); have HP2 : Hid _ := hP2; have HS2 : Hid _ := hS2; have HP3 : Hid _ := HN3.out w2 hP2; simp only at n0 n1 n2 n3 n4; clear hF2 hS2 hP2))
  refine (CC.out _ (HP3.out.1.free' (set_at' HX.out _)).1).mono ?_
  rintro e w4 ⟨⟨sx, rfl, hF4⟩, c4⟩
  have HF4 : Hid (Free (w2.setCell ⟨gb, i * 5 + 4, none⟩ (.int .i64 (-1))).heap.size w4 (⟨xp, xd, xq, setLens xb ls, -1⟩, sx)) := hF4
  have B4 : Hid (Below (w2.setCell ⟨gb, i * 5 + 4, none⟩ (.int .i64 (-1))).heap.size (w2.setCell ⟨gb, i * 5 + 4, none⟩ (.int .i64 (-1))) w4) := c4
  have hrb := (HPRE.out.free' HX.out).1.ok.bs.lt
  have hgt := HPRE.out.lt
  have HAN4 : Hid (AnC w4 (w.heap.size + 1) 0 zeroB noS zeroX 0) := ((HAN.out.keep HS2.out (fun e => by have := hrb _ e; omega)).keep HP3.out.2 (fun e => by omega)).below c4
  obtain ⟨a0, a1, a2, a3, a4, a5, a6, a7, a8, a9, a10, afr⟩ := HAN4.out
  unfold ndV
  unfold zeroB at a1 a2 a3
  unfold noS at a4
  unfold zeroX zeroN noS at a5 a6 a7 a8 a9
  simp only at a1 a2 a3 a4 a5 a6 a7 a8 a9 ⊢
  clear hF4 c4 hrb hgt
  go_wp2
  have hsz3 : w.heap.size + 2 ≤ (w2.setCell ⟨gb, i * 5 + 4, none⟩ (.int .i64 (-1))).heap.size := by
    have h1 := HS2.out.size
    have h2 := HP3.out.2.size
    have := HSZ.out
    omega
  have hO4 : OwnM base w.heap.size w4 ⟨s.tx, s.nb, s.ng, s.now, s.ns.set i ⟨xp, xd, xq, setLens xb ls, -1⟩, s.ls⟩ N L (ps.set i (⟨xp, xd, xq, setLens xb ls, -1⟩, ⟨ra, rn, rc⟩)) (some gb) gl := (HP3.out.1.own.at HPRE.out.m.1 HPRE.out.m.2.1 (set_blk HX.out HPRE.out.m.2.2)).below B4.out
  have hF4 : Free w.heap.size w4 (⟨xp, xd, xq, setLens xb ls, -1⟩, sx) := HF4.out.mono (by omega)
  have hst4 : Stay (Chg S base M0) w w4 := by
    have hge := (HPRE.out.free' HX.out).1.blk_ge
    have hgb := HPRE.out.lt
    refine (((Stay.of_below B1.out).trans HS2.out (fun k _ e => .inr ⟨hge k e, HPRE.out.m3 _ (List.mem_of_getElem? HX.out) k e⟩)).trans HP3.out.2 (fun k _ e => .inr ⟨by omega, by omega⟩)).then_below B4.out
  obtain ⟨hA, hD⟩ := DoneR.mk2 (b := zeroB) (x := ⟨xp, xd, xq, setLens xb ls, -1⟩) (sx := sx) HAN4.out (HP3.out.1.c.below B4.out) hO4 hF4 HPRE.out.bw hst4 (by omega) HPRE.out.bw HPRE.out.lt.2.2.1 (fun k hk => by have := HPRE.out.m1; have := HPRE.out.mw; cases hk; omega) (fun k hk => by have := HPRE.out.m2 k hk; have := HPRE.out.mw; omega) (fun z hz k hk => by have := set_blk HX.out HPRE.out.m3 z hz k hk; have := HPRE.out.mw; omega) (fun k hk => by have h1 := HF4.out.blk_ge k hk; have := hsz3; omega)
  have k0 := hA.c0
  have k1 := hA.c1
  have k2 := hA.c2
  have k3 := hA.c3
  have k4 := hA.c4
  have k5 := hA.c5
  have k6 := hA.c6
  have k7 := hA.c7
  have k8 := hA.c8
  have k9 := hA.c9
  have k10 := hA.c10
  unfold put11 noS at k0 k1 k2 k3 k4 k5 k6 k7 k8 k9 k10 hD
  simp only [zeroB, anV] at k0 k1 k2 k3 k4 k5 k6 k7 k8 k9 k10 hD
  refine bodyPost_ret ?_ rfl hD
  simp only [results, Tryz.results49]
  simp [go_sem, k0, k1, k2, k3, k4, k5, k6, k7, k8, k9, k10]

end Go.Proofs.YticiihjkgiookaaGreat.Spa

/- The contracts of space.complete (refused), reopen. -/
namespace Go.Proofs.YticiihjkgiookaaGreat.Spa
open Go.RowKit Go.Proofs.YticiihjkgiookaaGreat
open Go.Proofs.YticiihjkgiookaaGreat.Lea (LS Ls findX putL renX LL LO LsR lsC wideL)
open Go.Proofs.YticiihjkgiookaaGreat.Edi (Ed Nm EdAt edV)

/-- An edit that can't be made. -/
structure LeftR (S base M0 : Nat) (E : Int) (w : World) (r : Ending) (w' : World) : Prop where
  eq : r = leftV E
  st : Stay (Chg S base M0) w w'
  c : ∀ s N L, SpC w S s N L → ∃ s' N' L', SpC w' S s' N' L'
theorem LeftR.of {S base M0 : Nat} {E : Int} {w w' : World} (hb : Below w.heap.size w w') : LeftR S base M0 E w (leftV E) w' := ⟨rfl, Stay.of_below hb, fun s N L h => ⟨s, N, L, h.below hb⟩⟩
/-- A panic leaves a function. -/
theorem left_post {P : Program} {fn : Func} {S base M0 : Nat} {E : Int} {w w' : World} {a : Act} (ha : a.defers = []) (h : LeftR S base M0 E w (leftV E) w') : bodyPost P fn (fun r w' => LeftR S base M0 E w r w') (.panic [{ v := .iface 29 (.int .i64 E), recovered := false }]) a w' := ⟨ha, h⟩

set_option maxRecDepth 100000 in
set_option maxHeartbeats 4000000 in
theorem complete_writ {base M0 S : Nat} {w : World} {s : Sp} {N L : RS} {ps : List NR} {gb : Nat} {gl : Option Nat} (h : Pre base M0 S w s N L ps gb gl) (e : Ed) (ea : Option Addr) (em eq : Nat) (hs : e.p.size ≤ maxLen) (E : Int) (hE : WritE s.ns e.p e.c E) (h0 : E ≠ 0) (hp : 0 < ps.length) :
    Calls Tryz.prog 49 #[.pointer (some ⟨S, 0, none⟩), edV e ea em eq] w fun r w' => LeftR S base M0 E w r w' := by
  have hE2 : WritE (ps.map (·.1)) e.p e.c E := by rw [h.own.map]; exact hE
  have CW : Hid (∀ W, Below w.heap.size w W → Calls Tryz.prog 93 #[.pointer (some ⟨S, 0, none⟩), edV e ea em eq] W fun e w' => e = leftV E ∧ Below W.heap.size W w') := fun W hb => written_no ((h.below hb).lies hp) e ea em eq hs E hE2 h0
  obtain ⟨k, p, t, cl, l, nn, ls⟩ := e
  unfold edV at CW ⊢
  simp only at CW ⊢
  have hst := run_store_str
  clear h hs hE hE2 h0 hp
  go_enter Tryz.func49, Tryz.ntmps49
  go_wp2_with (go_at_call 93; refine (CW.out _ (bel_tr (bel_al _ _) (bel_al _ _))).mono ?_; rintro e w1 ⟨rfl, c1⟩)
  exact left_post rfl (LeftR.of (bel_tr (bel_tr (bel_al _ _) (bel_al _ _)) c1))

set_option maxRecDepth 100000 in
set_option maxHeartbeats 4000000 in
theorem complete_lens {base M0 S : Nat} {w : World} {s : Sp} {N L : RS} {ps : List NR} {gb : Nat} {gl : Option Nat} (h : Pre base M0 S w s N L ps gb gl) (e : Ed) (ea : Option Addr) (em eq : Nat) (hn : Nm w ea em e.ls) (hnb : ∀ ad, ea = some ad → 0 < em → ad.block < base) (hs : e.p.size ≤ maxLen) (i : Nat) (x : Nd) (hw : Wr s e i x) (hl : ¬ LenOk x.bs e.ls) (h8 : x.bs.length ≤ 8) :
    Calls Tryz.prog 49 #[.pointer (some ⟨S, 0, none⟩), edV e ea em eq] w fun r w' => LeftR S base M0 1 w r w' := by
  have hiq : Is (ps.map (·.1)) e.p i x := by rw [h.own.map]; exact hw.is
  obtain ⟨r, hX⟩ := is_at' hiq
  obtain ⟨hF0, hg0, hiN, hpos, _⟩ := h.free' hX
  have hrn : x.bs.length = r.n := hF0.ok.bs.len
  have CW : Hid (∀ W, Below w.heap.size w W → Calls Tryz.prog 93 #[.pointer (some ⟨S, 0, none⟩), edV e ea em eq] W fun e w' => e = .returned (.pointer (some ⟨gb, i * 5, none⟩)) ∧ Below W.heap.size W w') := fun W hb => written_ok ((h.below hb).lies hpos) e ea em eq hs i x hiq hw.dir hw.wr
  have CS : Hid (∀ W, Below w.heap.size w W → Calls Tryz.prog 94 #[.pointer (some ⟨gb, i * 5, none⟩), .slice ea em eq] W fun r' w' => r' = leftV 1 ∧ Stay (fun k => r.blk = some k) W w') := fun W hb => by
    have hP := h.below hb
    obtain ⟨hF, hg, _, _, _⟩ := hP.free' hX
    refine setLengths_no (x := x) (s := r) hF ((hP.lies hpos).at' hX).c3 hg (hn.below hb) (fun ad had hp e => ?_) hl (by omega)
    have := hF.blk_ge _ e
    have := hnb ad had hp
    omega
  have HSB : Hid (S < base) := h.sb
  have HGE : Hid (∀ k, r.blk = some k → base ≤ k ∧ k < M0) := fun k hk => ⟨hF0.blk_ge k hk, h.m3 _ (List.mem_of_getElem? hX) k hk⟩
  obtain ⟨k, p, t, cl, l, nn, ls⟩ := e
  unfold edV at CW ⊢
  simp only at CW CS ⊢
  have hst := run_store_str
  clear h hn hnb hs hw hl h8 hiq hX hF0 hg0 hiN hpos hrn
  go_enter Tryz.func49, Tryz.ntmps49
  go_wp2_with (first
    | (go_at_call 93; refine (CW.out _ (bel_tr (bel_al _ _) (bel_al _ _))).mono ?_; rintro e w1 ⟨rfl, c1⟩; obtain ⟨q1, q2, q3, q4, q5, q6⟩ := two_boxes c1; have y6 := q1 6 _ rfl; have B1 : Hid (Below w.heap.size w w1) := q5; clear c1 q1 q2 q3 q4 q5 q6)
    | (go_at_call 94; refine (CS.out _ B1.out).mono ?_; rintro e w2 ⟨rfl, hS2⟩))
  exact left_post rfl ⟨rfl, (Stay.of_below B1.out).trans hS2 (fun k _ e => .inr (HGE.out k e)), fun s N L h => ⟨s, N, L, (h.below B1.out).keep hS2 (fun e => by have := HGE.out S e; have := HSB.out; omega)⟩⟩

end Go.Proofs.YticiihjkgiookaaGreat.Spa

/- The contract of space.renewLease. -/
namespace Go.Proofs.YticiihjkgiookaaGreat.Spa
open Go.RowKit Go.Proofs.YticiihjkgiookaaGreat
open Go.Proofs.YticiihjkgiookaaGreat.Lea (LS Ls findX putL renX LL LO LsR lsC wideL)
open Go.Proofs.YticiihjkgiookaaGreat.Edi (Ed Nm EdAt edV)

/-- One word of a space is written. -/
theorem SpC.set5 {w : World} {S : Nat} {s : Sp} {N L : RS} (h : SpC w S s N L) (L' : RS) (ls : LS) : SpC (w.setCell ⟨S, 5, none⟩ (.slice L'.a L'.n L'.c)) S ⟨s.tx, s.nb, s.ng, s.now, s.ns, ls⟩ N L' ∧ Stay (fun k => k = S) w (w.setCell ⟨S, 5, none⟩ (.slice L'.a L'.n L'.c)) :=
  ⟨⟨(other_cell _ _ _ _ _ (by omega)).trans h.c0, (other_cell _ _ _ _ _ (by omega)).trans h.c1, (other_cell _ _ _ _ _ (by omega)).trans h.c2, (other_cell _ _ _ _ _ (by omega)).trans h.c3, (other_cell _ _ _ _ _ (by omega)).trans h.c4, same_cell h.c5, fun j => by rw [World.frozen?_setCell]; exact h.fr j⟩, Stay.setCell _ _ _ rfl⟩
theorem SpC.set4 {w : World} {S : Nat} {s : Sp} {N L : RS} (h : SpC w S s N L) (N' : RS) (ns : NS) : SpC (w.setCell ⟨S, 4, none⟩ (.slice N'.a N'.n N'.c)) S ⟨s.tx, s.nb, s.ng, s.now, ns, s.ls⟩ N' L ∧ Stay (fun k => k = S) w (w.setCell ⟨S, 4, none⟩ (.slice N'.a N'.n N'.c)) :=
  ⟨⟨(other_cell _ _ _ _ _ (by omega)).trans h.c0, (other_cell _ _ _ _ _ (by omega)).trans h.c1, (other_cell _ _ _ _ _ (by omega)).trans h.c2, (other_cell _ _ _ _ _ (by omega)).trans h.c3, same_cell h.c4, (other_cell _ _ _ _ _ (by omega)).trans h.c5, fun j => by rw [World.frozen?_setCell]; exact h.fr j⟩, Stay.setCell _ _ _ rfl⟩
theorem SpC.set3 {w : World} {S : Nat} {s : Sp} {N L : RS} (h : SpC w S s N L) (v : Int) : SpC (w.setCell ⟨S, 3, none⟩ (.int .i64 v)) S ⟨s.tx, s.nb, s.ng, v, s.ns, s.ls⟩ N L ∧ Stay (fun k => k = S) w (w.setCell ⟨S, 3, none⟩ (.int .i64 v)) :=
  ⟨⟨(other_cell _ _ _ _ _ (by omega)).trans h.c0, (other_cell _ _ _ _ _ (by omega)).trans h.c1, (other_cell _ _ _ _ _ (by omega)).trans h.c2, same_cell h.c3, (other_cell _ _ _ _ _ (by omega)).trans h.c4, (other_cell _ _ _ _ _ (by omega)).trans h.c5, fun j => by rw [World.frozen?_setCell]; exact h.fr j⟩, Stay.setCell _ _ _ rfl⟩
theorem SpC.set2 {w : World} {S : Nat} {s : Sp} {N L : RS} (h : SpC w S s N L) (v : Int) : SpC (w.setCell ⟨S, 2, none⟩ (.int .i64 v)) S ⟨s.tx, s.nb, v, s.now, s.ns, s.ls⟩ N L ∧ Stay (fun k => k = S) w (w.setCell ⟨S, 2, none⟩ (.int .i64 v)) :=
  ⟨⟨(other_cell _ _ _ _ _ (by omega)).trans h.c0, (other_cell _ _ _ _ _ (by omega)).trans h.c1, same_cell h.c2, (other_cell _ _ _ _ _ (by omega)).trans h.c3, (other_cell _ _ _ _ _ (by omega)).trans h.c4, (other_cell _ _ _ _ _ (by omega)).trans h.c5, fun j => by rw [World.frozen?_setCell]; exact h.fr j⟩, Stay.setCell _ _ _ rfl⟩
theorem SpC.set1 {w : World} {S : Nat} {s : Sp} {N L : RS} (h : SpC w S s N L) (v : Int) : SpC (w.setCell ⟨S, 1, none⟩ (.int .i64 v)) S ⟨s.tx, v, s.ng, s.now, s.ns, s.ls⟩ N L ∧ Stay (fun k => k = S) w (w.setCell ⟨S, 1, none⟩ (.int .i64 v)) :=
  ⟨⟨(other_cell _ _ _ _ _ (by omega)).trans h.c0, same_cell h.c1, (other_cell _ _ _ _ _ (by omega)).trans h.c2, (other_cell _ _ _ _ _ (by omega)).trans h.c3, (other_cell _ _ _ _ _ (by omega)).trans h.c4, (other_cell _ _ _ _ _ (by omega)).trans h.c5, fun j => by rw [World.frozen?_setCell]; exact h.fr j⟩, Stay.setCell _ _ _ rfl⟩
theorem SpC.set0 {w : World} {S : Nat} {s : Sp} {N L : RS} (h : SpC w S s N L) (v : Int) : SpC (w.setCell ⟨S, 0, none⟩ (.int .i64 v)) S ⟨v, s.nb, s.ng, s.now, s.ns, s.ls⟩ N L ∧ Stay (fun k => k = S) w (w.setCell ⟨S, 0, none⟩ (.int .i64 v)) :=
  ⟨⟨same_cell h.c0, (other_cell _ _ _ _ _ (by omega)).trans h.c1, (other_cell _ _ _ _ _ (by omega)).trans h.c2, (other_cell _ _ _ _ _ (by omega)).trans h.c3, (other_cell _ _ _ _ _ (by omega)).trans h.c4, (other_cell _ _ _ _ _ (by omega)).trans h.c5, fun j => by rw [World.frozen?_setCell]; exact h.fr j⟩, Stay.setCell _ _ _ rfl⟩

/-- Leases are renewed. -/
structure RnwR (S : Nat) (s : Sp) (N : RS) (ys : LS) (w : World) (r : Ending) (w' : World) : Prop where
  ex : ∃ L' gl', r = .returned (.tuple #[]) ∧ SpC w' S ⟨s.tx, s.nb, s.ng, s.now, s.ns, ys⟩ N L' ∧ LO w.heap.size w' L'.a L'.n L'.c ys gl'
  st : Stay (fun k => k = S) w w'

set_option maxRecDepth 100000 in
set_option maxHeartbeats 4000000 in
theorem renewLease_ok {S : Nat} {w : World} {s : Sp} {N L : RS} (h : SpC w S s N L) (hL : LL w L.a L.n L.c s.ls) (c : Int) (ys : LS) (hr : renX s.ls c s.now = (ys, true)) :
    Calls Tryz.prog 87 #[.pointer (some ⟨S, 0, none⟩), .int .i64 c] w fun r w' => RnwR S s N ys w r w' := by
  obtain ⟨m, hm⟩ : ∃ m, ys.length = m := ⟨_, rfl⟩
  have CR : Hid (∀ W, Below w.heap.size w W → Calls Tryz.prog 130 #[.slice L.a L.n L.c, .int .i64 c, .int .i64 s.now] W fun e w' => LsR W.heap.size ys m (Lea.errV true) e w' ∧ Below W.heap.size W w') := fun W hb => Lea.renew_val (hL.below hb) c s.now ys true m hr hm
  have CT : Hid (∀ W a c, Calls Tryz.prog 129 #[.slice a m c, .int .i64 0] W fun e w' => e = .returned (.slice a m c) ∧ W = w') := fun W a c => (takenL_ok W).mono fun e w' ⟨h1, h2⟩ => ⟨h1, h2.symm⟩
  have HC : Hid (SpC w S s N L) := h
  obtain ⟨k0, k1, k2, k3, k4, k5, kf⟩ := h
  have hst2 : ∀ (w : World) (a : Addr) (x : Option Addr) (n c : Nat) (m : Mode), (store a (.slice x n c) m).run Tryz.prog w = stored Tryz.prog w a (.slice x n c) m := fun w a x n c m => run_store_any w a _ m rfl
  have HS : Hid (S < w.heap.size) := World.block_lt_of_cell? _ _ k0
  clear hL hr hm k0 k1 k2 k4
  go_enter Tryz.func87, Tryz.ntmps87
  refine wp_region_any (by kernel_rfl) ?_
  try (change wpAny _ _ _ _ _ _ _ (World.drew _))
  refine wpAny_take (i := 0) (v := ?_) rfl (by kernel_rfl) (by kernel_rfl) (by kernel_rfl) (fun _ _ _ h => h) (Or.inl ⟨by rfl, ?_⟩) ?_
  rotate_left
  · intro w; go_simp; first | done | with_reducible rfl
  refine wpAny_take (i := 1) (v := ?_) rfl (by kernel_rfl) (by kernel_rfl) (by kernel_rfl) (fun _ _ _ h => h) (Or.inl ⟨by rfl, ?_⟩) ?_
  rotate_left
  · intro w; go_simp; first | done | with_reducible rfl
  refine wpAny_take (i := 2) (v := ?_) rfl (by kernel_rfl) (by kernel_rfl) (by kernel_rfl) (fun _ _ _ h => h) (Or.inl ⟨by rfl, ?_⟩) ?_
  rotate_left
  · intro w; go_simp; first | done | with_reducible rfl
  refine wpAny_take (i := 3) (v := ?_) rfl (by kernel_rfl) (by kernel_rfl) (by kernel_rfl) (fun _ _ _ h => h) (Or.inl ⟨by rfl, ?_⟩) ?_
  rotate_left
  · intro w; go_simp; first | done | with_reducible rfl
  refine wpAny_take (i := 5) (v := ?_) rfl (by kernel_rfl) (by kernel_rfl) (by kernel_rfl) (fun _ _ _ h => h) (Or.inl ⟨by rfl, ?_⟩) ?_
  rotate_left
  · intro w; go_simp; first | done | with_reducible rfl
  refine wpAny_take (i := 6) (v := ?_) rfl (by kernel_rfl) (by kernel_rfl) (by kernel_rfl) (fun _ _ _ h => h) (Or.inl ⟨by rfl, ?_⟩) ?_
  rotate_left
  · intro w; go_simp; first | done | with_reducible rfl
  refine wpAny_take (i := 7) (v := ?_) rfl (by kernel_rfl) (by kernel_rfl) (by kernel_rfl) (fun _ _ _ h => h) (Or.inl ⟨by rfl, ?_⟩) ?_
  rotate_left
  · intro w; go_simp; first | done | with_reducible rfl
  refine wpAny_take (i := 8) (v := ?_) rfl (by kernel_rfl) (by kernel_rfl) (by kernel_rfl) (fun _ _ _ h => h) (Or.inl ⟨by rfl, ?_⟩) ?_
  rotate_left
  · intro w; go_simp; first | done | with_reducible rfl
  refine wpAny_ready (rs := [4, 9]) (by kernel_rfl) (by simp) ?_
  refine AllReady.cons rfl (fun K hK => ?_) ?_
  · go_simp
    refine hK _ _ ?_
    clear hK K
    refine wpAny_ready (rs := [9]) (by kernel_rfl) (by simp) ?_
    refine AllReady.cons rfl (fun K hK => ?_) ?_
    · go_simp
      refine hK _ _ ?_
      clear hK K
      refine wpAny_ready (rs := [10]) (by kernel_rfl) (by simp) ?_
      refine AllReady.cons rfl (fun K hK => ?_) ?_
      · go_simp
        refine (CR.out _ (bel_drewN _ 1)).mono ?_; rintro e w1 ⟨⟨la2, lc2, g2, rfl, hLO⟩, c1⟩; have B0 : Hid (w.heap.size ≤ (w.drewN 1).heap.size) := Nat.le_refl _; have B1 : Hid (Below w.heap.size w w1) := bel_tr (bel_drewN w 1) c1; have d3 := bel_cell B1.out k3; have d5 := bel_cell B1.out k5; have df : w1.frozen? ⟨S, 5, none⟩ = false := (World.frozen?_of_block (a := ⟨S, 5, none⟩) (B1.out.block S HS.out)).trans (kf 5); have HLO : Hid (LO (w.drewN 1).heap.size w1 la2 m lc2 ys g2) := hLO; clear hLO c1; unfold Lea.errV; simp only [if_true]
        try go_simp
        refine hK _ _ ?_
        clear hK K
        refine wpAny_take (i := 11) (v := ?_) rfl (by kernel_rfl) (by kernel_rfl) (by kernel_rfl) (fun _ _ _ h => h) (Or.inl ⟨by rfl, ?_⟩) ?_
        rotate_left
        · intro w; go_simp; first | done | with_reducible rfl
        refine wpAny_take (i := 12) (v := ?_) rfl (by kernel_rfl) (by kernel_rfl) (by kernel_rfl) (fun _ _ _ h => h) (Or.inl ⟨by rfl, ?_⟩) ?_
        rotate_left
        · intro w; go_simp; first | done | with_reducible rfl
        refine wpAny_ready (rs := [13]) (by kernel_rfl) (by simp) ?_
        refine AllReady.cons rfl (fun K hK => ?_) ?_
        · go_simp
          refine (CT.out _ _ _).mono ?_; rintro e w2 ⟨rfl, rfl⟩
          try go_simp
          refine hK _ _ ?_
          clear hK K
          refine wpAny_take (i := 14) (v := ?_) rfl (by kernel_rfl) (by kernel_rfl) (by kernel_rfl) (fun _ _ _ h => h) (Or.inl ⟨by rfl, ?_⟩) ?_
          rotate_left
          · intro w; go_simp; first | done | with_reducible rfl
          refine wpAny_take (i := 15) (v := ?_) rfl (by kernel_rfl) (by kernel_rfl) (by kernel_rfl) (fun _ _ _ h => h) (Or.inl ⟨by rfl, ?_⟩) ?_
          rotate_left
          · intro w; go_simp; first | done | with_reducible rfl
          refine wpAny_ready (rs := [16]) (by kernel_rfl) (by simp) ?_
          refine AllReady.cons rfl (fun K hK => ?_) ?_
          · go_simp
            refine hK _ _ ?_
            clear hK K
            refine wpAny_done (by kernel_rfl) ?_ _
            go_wp2
            have hC1 := HC.out.below B1.out
            obtain ⟨r1, r2⟩ := hC1.set5 ⟨la2, m, lc2⟩ ys
            first | go_end0 | refine bodyPost_ret (results_none rfl _ _ _) rfl ?_
            exact ⟨⟨⟨la2, m, lc2⟩, g2, rfl, r1, (HLO.out.mono B0.out).cel.setOut ⟨S, 5, none⟩ _ (fun e => by have := HLO.out.own S e; have := B0.out; have := HS.out; omega), HLO.out.len⟩, (Stay.of_below B1.out).then_same r2⟩
          exact AllReady.nil
        exact AllReady.nil
      exact AllReady.nil
    exact AllReady.nil
  refine AllReady.cons rfl (fun K hK => ?_) ?_
  · go_simp
    refine hK _ _ ?_
    clear hK K
    refine wpAny_ready (rs := [4]) (by kernel_rfl) (by simp) ?_
    refine AllReady.cons rfl (fun K hK => ?_) ?_
    · go_simp
      refine hK _ _ ?_
      clear hK K
      refine wpAny_ready (rs := [10]) (by kernel_rfl) (by simp) ?_
      refine AllReady.cons rfl (fun K hK => ?_) ?_
      · go_simp
        refine (CR.out _ (bel_drewN _ 1)).mono ?_; rintro e w1 ⟨⟨la2, lc2, g2, rfl, hLO⟩, c1⟩; have B0 : Hid (w.heap.size ≤ (w.drewN 1).heap.size) := Nat.le_refl _; have B1 : Hid (Below w.heap.size w w1) := bel_tr (bel_drewN w 1) c1; have d3 := bel_cell B1.out k3; have d5 := bel_cell B1.out k5; have df : w1.frozen? ⟨S, 5, none⟩ = false := (World.frozen?_of_block (a := ⟨S, 5, none⟩) (B1.out.block S HS.out)).trans (kf 5); have HLO : Hid (LO (w.drewN 1).heap.size w1 la2 m lc2 ys g2) := hLO; clear hLO c1; unfold Lea.errV; simp only [if_true]
        try go_simp
        refine hK _ _ ?_
        clear hK K
        refine wpAny_take (i := 11) (v := ?_) rfl (by kernel_rfl) (by kernel_rfl) (by kernel_rfl) (fun _ _ _ h => h) (Or.inl ⟨by rfl, ?_⟩) ?_
        rotate_left
        · intro w; go_simp; first | done | with_reducible rfl
        refine wpAny_take (i := 12) (v := ?_) rfl (by kernel_rfl) (by kernel_rfl) (by kernel_rfl) (fun _ _ _ h => h) (Or.inl ⟨by rfl, ?_⟩) ?_
        rotate_left
        · intro w; go_simp; first | done | with_reducible rfl
        refine wpAny_ready (rs := [13]) (by kernel_rfl) (by simp) ?_
        refine AllReady.cons rfl (fun K hK => ?_) ?_
        · go_simp
          refine (CT.out _ _ _).mono ?_; rintro e w2 ⟨rfl, rfl⟩
          try go_simp
          refine hK _ _ ?_
          clear hK K
          refine wpAny_take (i := 14) (v := ?_) rfl (by kernel_rfl) (by kernel_rfl) (by kernel_rfl) (fun _ _ _ h => h) (Or.inl ⟨by rfl, ?_⟩) ?_
          rotate_left
          · intro w; go_simp; first | done | with_reducible rfl
          refine wpAny_take (i := 15) (v := ?_) rfl (by kernel_rfl) (by kernel_rfl) (by kernel_rfl) (fun _ _ _ h => h) (Or.inl ⟨by rfl, ?_⟩) ?_
          rotate_left
          · intro w; go_simp; first | done | with_reducible rfl
          refine wpAny_ready (rs := [16]) (by kernel_rfl) (by simp) ?_
          refine AllReady.cons rfl (fun K hK => ?_) ?_
          · go_simp
            refine hK _ _ ?_
            clear hK K
            refine wpAny_done (by kernel_rfl) ?_ _
            go_wp2
            have hC1 := HC.out.below B1.out
            obtain ⟨r1, r2⟩ := hC1.set5 ⟨la2, m, lc2⟩ ys
            first | go_end0 | refine bodyPost_ret (results_none rfl _ _ _) rfl ?_
            exact ⟨⟨⟨la2, m, lc2⟩, g2, rfl, r1, (HLO.out.mono B0.out).cel.setOut ⟨S, 5, none⟩ _ (fun e => by have := HLO.out.own S e; have := B0.out; have := HS.out; omega), HLO.out.len⟩, (Stay.of_below B1.out).then_same r2⟩
          exact AllReady.nil
        exact AllReady.nil
      exact AllReady.nil
    exact AllReady.nil
  exact AllReady.nil

end Go.Proofs.YticiihjkgiookaaGreat.Spa

/- The contracts of space.reopen, setQuota, renew. -/
namespace Go.Proofs.YticiihjkgiookaaGreat.Spa
open Go.RowKit Go.Proofs.YticiihjkgiookaaGreat
open Go.Proofs.YticiihjkgiookaaGreat.Lea (LS Ls findX putL renX LL LO LsR lsC wideL)
open Go.Proofs.YticiihjkgiookaaGreat.Edi (Ed Nm EdAt edV)

theorem OwnM.renew {base M S : Nat} {w w' : World} {s : Sp} {N L L' : RS} {ps : List NR} {g gl gl' : Option Nat} {ys : LS} (h : OwnM base M w s N L ps g gl) (hM : M ≤ w.heap.size) (hS : S < base) (hb : base ≤ w.heap.size) (hL : LO w.heap.size w' L'.a L'.n L'.c ys gl') (hst : Stay (fun k => k = S) w w') : OwnM base w'.heap.size w' ⟨s.tx, s.nb, s.ng, s.now, s.ns, ys⟩ N L' ps g gl' := by
  have h1 := h.out hst (fun k hk => .inl (by omega))
  have ho := hL.own
  have hs := hst.size
  exact ⟨h1.lot, h1.map, hL.mono hb, fun k hk e => by have := h.lt1 k hk; have := (ho k e).2; omega, fun x hx k hk e => by have := h.lt3 x hx k hk; have := (ho k e).2; omega, fun k hk => by have := h.lt1 k hk; omega, fun k hk => (ho k hk).1, fun x hx k hk => by have := h.lt3 x hx k hk; omega⟩

set_option maxRecDepth 100000 in
set_option maxHeartbeats 4000000 in
theorem reopen_ok {base M0 S : Nat} {w : World} {s : Sp} {N L : RS} {ps : List NR} {gb : Nat} {gl : Option Nat} (h : Pre base M0 S w s N L ps gb gl) (e : Ed) (ea : Option Addr) (em eq : Nat) (hs : e.p.size ≤ maxLen) (i : Nat) (x : Nd) (hi : Is s.ns e.p i x) (hd : x.dir = false) (hw : x.wr = -1) (h8 : x.bs.length ≤ 8) (ys : LS) (hr : renX s.ls e.c s.now = (ys, true)) :
    Calls Tryz.prog 53 #[.pointer (some ⟨S, 0, none⟩), edV e ea em eq] w fun r w' => DoneR S base M0 ⟨s.tx, s.nb, s.ng, s.now, s.ns.set i (withWr x e.c), ys⟩ zeroB (withWr x e.c) w r w' := by
  have hiq : Is (ps.map (·.1)) e.p i x := by rw [h.own.map]; exact hi
  obtain ⟨r, hX⟩ := is_at' hiq
  obtain ⟨hF0, hg0, hiN, hpos, _⟩ := h.free' hX
  have hrn : x.bs.length = r.n := hF0.ok.bs.len
  have hxs : x.path.size ≤ maxLen := hF0.ok.small
  have CW : Hid (∀ W, Below w.heap.size w W → Calls Tryz.prog 97 #[.pointer (some ⟨S, 0, none⟩), .string e.p] W fun e w' => e = .returned (.pointer (some ⟨gb, i * 5, none⟩)) ∧ Below W.heap.size W w') := fun W hb => fileAt_ok ((h.below hb).lies hpos) e.p hs i x hiq hd
  have CR : Hid (∀ E W, Calls Tryz.prog 18 #[.bool false, .int .i64 E] W fun e w' => e = .returned (.tuple #[]) ∧ W = w') := fun E W => (refuse_no E W).mono fun e w' ⟨h1, h2⟩ => ⟨h1, h2.symm⟩
  have HX : Hid (ps[i]? = some (x, r)) := hX
  have HPRE : Hid (Pre base M0 S w s N L ps gb gl) := h
  have HRN : Hid (r.n ≤ 8) := by show r.n ≤ 8; omega
  obtain ⟨k, p, t, cl, l, nn, ls⟩ := e
  obtain ⟨xp, xd, xq, xb, xw⟩ := x
  obtain ⟨ra, rn, rc⟩ := r
  simp only at hw HX HRN hxs hr ⊢
  subst hw
  have HR : Hid (renX s.ls cl s.now = (ys, true)) := hr
  have HN3 : Hid (∀ w2, Below w.heap.size w w2 → Pre base M0 S (w2.setCell ⟨gb, i * 5 + 4, none⟩ (.int .i64 cl)) ⟨s.tx, s.nb, s.ng, s.now, s.ns.set i ⟨xp, xd, xq, xb, cl⟩, s.ls⟩ N L (ps.set i (⟨xp, xd, xq, xb, cl⟩, ⟨ra, rn, rc⟩)) gb gl ∧ Stay (fun k => k = gb) w2 (w2.setCell ⟨gb, i * 5 + 4, none⟩ (.int .i64 cl))) := fun w2 hb => 
    (HPRE.out.below hb).f' HX.out 4 (by omega) (.int .i64 cl) ⟨xp, xd, xq, xb, cl⟩ (fun j => by
      match j with
      | 0 => rfl
      | 1 => rfl
      | 2 => rfl
      | 3 => rfl
      | 4 => rfl
      | j + 5 => rfl) rfl hxs
  have CL : Hid (∀ W, Pre base M0 S W ⟨s.tx, s.nb, s.ng, s.now, s.ns.set i ⟨xp, xd, xq, xb, cl⟩, s.ls⟩ N L (ps.set i (⟨xp, xd, xq, xb, cl⟩, ⟨ra, rn, rc⟩)) gb gl → Calls Tryz.prog 87 #[.pointer (some ⟨S, 0, none⟩), .int .i64 cl] W fun r w' => RnwR S ⟨s.tx, s.nb, s.ng, s.now, s.ns.set i ⟨xp, xd, xq, xb, cl⟩, s.ls⟩ N ys W r w') := fun W hP => renewLease_ok hP.c hP.own.lo.ll cl ys HR.out
  have CC : Hid (∀ W, Free base W (⟨xp, xd, xq, xb, cl⟩, ⟨ra, rn, rc⟩) → Calls Tryz.prog 31 #[.agg #[.string xp, .bool xd, .int .i64 xq, .slice ra rn rc, .int .i64 cl]] W fun e w' => CopyR W.heap.size ⟨xp, xd, xq, xb, cl⟩ e w' ∧ Below W.heap.size W w') := fun W hF => copiedNode_val (⟨xp, xd, xq, xb, cl⟩, ⟨ra, rn, rc⟩) W hF.ok (by show rn * 24 ≤ _; have := HRN.out; omega)
  have HND : Hid (∀ W W', Pre base M0 S W ⟨s.tx, s.nb, s.ng, s.now, s.ns.set i ⟨xp, xd, xq, xb, cl⟩, s.ls⟩ N L (ps.set i (⟨xp, xd, xq, xb, cl⟩, ⟨ra, rn, rc⟩)) gb gl → Stay (fun k => k = S) W W' → NdAt W' gb i (⟨xp, xd, xq, xb, cl⟩, ⟨ra, rn, rc⟩) ∧ Free base W' (⟨xp, xd, xq, xb, cl⟩, ⟨ra, rn, rc⟩)) := fun W W' hP hS => by
    have hf := hP.free' (set_at' HX.out _)
    have ha := (hP.lies hf.2.2.2.1).at' (set_at' HX.out _)
    have hlt := hP.lt
    have hsb := hP.sb
    refine ⟨?_, Free.out hf.1 hS (fun k hk => by omega)⟩
    have hb : W'.heap[gb]? = W.heap[gb]? := hS.block gb hlt.1 (by omega)
    exact ⟨(World.cell?_of_block (a := ⟨gb, i * 5, none⟩) hb).trans ha.c0, (World.cell?_of_block (a := ⟨gb, i * 5 + 1, none⟩) hb).trans ha.c1, (World.cell?_of_block (a := ⟨gb, i * 5 + 2, none⟩) hb).trans ha.c2, (World.cell?_of_block (a := ⟨gb, i * 5 + 3, none⟩) hb).trans ha.c3, (World.cell?_of_block (a := ⟨gb, i * 5 + 4, none⟩) hb).trans ha.c4⟩
  unfold edV
  simp only at CW ⊢
  have hst := run_store_str
  have hst2 : ∀ (w : World) (a : Addr) (x : Option Addr) (n c : Nat) (m : Mode), (store a (.slice x n c) m).run Tryz.prog w = stored Tryz.prog w a (.slice x n c) m := fun w a x n c m => run_store_any w a _ m rfl
  clear h hs hi hd h8 hiq hX hF0 hg0 hiN hpos hrn hxs hr
  go_enter Tryz.func53, Tryz.ntmps53
  go_wp2_with (first
    | (go_at_call 97; refine (CW.out _ (bel_tr (bel_al _ _) (bel_al _ _))).mono ?_; rintro e w1 ⟨rfl, c1⟩; obtain ⟨q1, q2, q3, q4, q5, q6⟩ := two_boxes c1; have y0 := q1 0 _ rfl; have y1 := q1 1 _ rfl; have y2 := q1 2 _ rfl; have y3 := q1 3 _ rfl; have y4 := q1 4 _ rfl; have y5 := q1 5 _ rfl; have y6 := q1 6 _ rfl; have B1 : Hid (Below w.heap.size w w1) := q5; have HAN : Hid (AnC w1 (w.heap.size + 1) 0 zeroB noS zeroX 0) := ⟨q3 0 _ rfl, q3 1 _ rfl, q3 2 _ rfl, q3 3 _ rfl, q3 4 _ rfl, q3 5 _ rfl, q3 6 _ rfl, q3 7 _ rfl, q3 8 _ rfl, q3 9 _ rfl, q3 10 _ rfl, q4⟩; have HSZ : Hid (w.heap.size + 2 ≤ w1.heap.size) := q6; clear c1 q1 q2 q3 q4 q5 q6; have hP1 := HPRE.out.below B1.out; obtain ⟨n0, n1, n2, n3, n4⟩ := (hP1.lies (hP1.free' HX.out).2.2.2.1).at' HX.out; have hfz := (hP1.free' HX.out).2.2.2.2 4 (by omega); have HP3 : Hid _ := HN3.out w1 B1.out; simp only at n0 n1 n2 n3 n4; clear hP1)
    | (go_at_call 18; refine (CR.out _ _).mono ?_; rintro e w2 ⟨rfl, rfl⟩)
    | (go_at_call 87; refine (CL.out _ HP3.out.1).mono ?_; rintro e w5 ⟨⟨L', gl', rfl, hC5, hL5⟩, hS5⟩; have HC5 : Hid _ := hC5; have HL5 : Hid _ := hL5; have HS5 : Hid _ := hS5; clear hC5 hL5 hS5; have HP5 : Hid (NdAt w5 gb i (⟨xp, xd, xq, xb, cl⟩, ⟨ra, rn, rc⟩) ∧ Free base w5 (⟨xp, xd, xq, xb, cl⟩, ⟨ra, rn, rc⟩)) := HND.out _ _ HP3.out.1 HS5.out; obtain ⟨v0, v1, v2, v3, v4⟩ := HP5.out.1; simp only at v0 v1 v2 v3 v4))
  refine (CC.out _ HP5.out.2).mono ?_
  rintro e w4 ⟨⟨sx, rfl, hF4⟩, c4⟩
  have HF4 : Hid (Free w5.heap.size w4 (⟨xp, xd, xq, xb, cl⟩, sx)) := hF4
  have B4 : Hid (Below w5.heap.size w5 w4) := c4
  have hgt := HPRE.out.lt
  have hsb := HPRE.out.sb
  have hbw := HPRE.out.bw
  have HAN4 : Hid (AnC w4 (w.heap.size + 1) 0 zeroB noS zeroX 0) := ((HAN.out.keep HP3.out.2 (fun e => by omega)).keep HS5.out (fun e => by omega)).below c4
  obtain ⟨a0, a1, a2, a3, a4, a5, a6, a7, a8, a9, a10, afr⟩ := HAN4.out
  unfold ndV
  unfold zeroB at a1 a2 a3
  unfold noS at a4
  unfold zeroX zeroN noS at a5 a6 a7 a8 a9
  simp only at a1 a2 a3 a4 a5 a6 a7 a8 a9 ⊢
  clear hF4 c4
  go_wp2
  have hsz3 : w.heap.size + 2 ≤ (w1.setCell ⟨gb, i * 5 + 4, none⟩ (.int .i64 cl)).heap.size := by
    have h2 := HP3.out.2.size
    have := HSZ.out
    omega
  have hsz5 := HS5.out.size
  have hO4 := ((HP3.out.1.own.at HPRE.out.m.1 HPRE.out.m.2.1 (set_blk HX.out HPRE.out.m.2.2)).renew (by omega) hsb (by omega) HL5.out HS5.out).below B4.out
  have hlo := HL5.out.own
  have hst4 : Stay (Chg S base M0) w w4 :=
    (((Stay.of_below B1.out).trans HP3.out.2 (fun k _ e => .inr ⟨by omega, by omega⟩)).trans HS5.out (fun k _ e => .inl e)).then_below B4.out
  obtain ⟨hA, hD⟩ := DoneR.mk2 (b := zeroB) (x := ⟨xp, xd, xq, xb, cl⟩) (sx := sx) HAN4.out (HC5.out.below B4.out) hO4 HF4.out (by omega) hst4 (by omega) HPRE.out.bw HPRE.out.lt.2.2.1 (fun k hk => by have := HPRE.out.m1; have := HPRE.out.mw; cases hk; omega) (fun k hk => by have := (hlo k hk).2; omega) (fun z hz k hk => by have := set_blk HX.out HPRE.out.m3 z hz k hk; have := HPRE.out.mw; omega) (fun k hk => by have h1 := HF4.out.blk_ge k hk; omega)
  have k0 := hA.c0
  have k1 := hA.c1
  have k2 := hA.c2
  have k3 := hA.c3
  have k4 := hA.c4
  have k5 := hA.c5
  have k6 := hA.c6
  have k7 := hA.c7
  have k8 := hA.c8
  have k9 := hA.c9
  have k10 := hA.c10
  unfold put11 noS at k0 k1 k2 k3 k4 k5 k6 k7 k8 k9 k10 hD
  simp only [zeroB, anV] at k0 k1 k2 k3 k4 k5 k6 k7 k8 k9 k10 hD
  refine bodyPost_ret ?_ rfl hD
  simp only [results, Tryz.results53]
  simp [go_sem, k0, k1, k2, k3, k4, k5, k6, k7, k8, k9, k10]

set_option maxRecDepth 100000 in
set_option maxHeartbeats 4000000 in
theorem reopen_file {base M0 S : Nat} {w : World} {s : Sp} {N L : RS} {ps : List NR} {gb : Nat} {gl : Option Nat} (h : Pre base M0 S w s N L ps gb gl) (e : Ed) (ea : Option Addr) (em eq : Nat) (hs : e.p.size ≤ maxLen) (E : Int) (hE : FileE s.ns e.p E) (h0 : E ≠ 0) (hp : 0 < ps.length) :
    Calls Tryz.prog 53 #[.pointer (some ⟨S, 0, none⟩), edV e ea em eq] w fun r w' => LeftR S base M0 E w r w' := by
  have hE2 : FileE (ps.map (·.1)) e.p E := by rw [h.own.map]; exact hE
  have CW : Hid (∀ W, Below w.heap.size w W → Calls Tryz.prog 97 #[.pointer (some ⟨S, 0, none⟩), .string e.p] W fun e w' => e = leftV E ∧ Below W.heap.size W w') := fun W hb => fileAt_no ((h.below hb).lies hp) e.p hs E hE2 h0
  obtain ⟨k, p, t, cl, l, nn, ls⟩ := e
  unfold edV
  simp only at CW ⊢
  have hst := run_store_str
  clear h hs hE hE2 h0 hp
  go_enter Tryz.func53, Tryz.ntmps53
  go_wp2_with (go_at_call 97; refine (CW.out _ (bel_tr (bel_al _ _) (bel_al _ _))).mono ?_; rintro e w1 ⟨rfl, c1⟩)
  exact left_post rfl (LeftR.of (bel_tr (bel_tr (bel_al _ _) (bel_al _ _)) c1))

set_option maxRecDepth 100000 in
set_option maxHeartbeats 4000000 in
theorem reopen_lease {base M0 S : Nat} {w : World} {s : Sp} {N L : RS} {ps : List NR} {gb : Nat} {gl : Option Nat} (h : Pre base M0 S w s N L ps gb gl) (e : Ed) (ea : Option Addr) (em eq : Nat) (hs : e.p.size ≤ maxLen) (i : Nat) (x : Nd) (hi : Is s.ns e.p i x) (hd : x.dir = false) (hw : x.wr ≠ -1) :
    Calls Tryz.prog 53 #[.pointer (some ⟨S, 0, none⟩), edV e ea em eq] w fun r w' => LeftR S base M0 9 w r w' := by
  have hiq : Is (ps.map (·.1)) e.p i x := by rw [h.own.map]; exact hi
  obtain ⟨r, hX⟩ := is_at' hiq
  obtain ⟨hF0, hg0, hiN, hpos, _⟩ := h.free' hX
  have CW : Hid (∀ W, Below w.heap.size w W → Calls Tryz.prog 97 #[.pointer (some ⟨S, 0, none⟩), .string e.p] W fun e w' => e = .returned (.pointer (some ⟨gb, i * 5, none⟩)) ∧ Below W.heap.size W w') := fun W hb => fileAt_ok ((h.below hb).lies hpos) e.p hs i x hiq hd
  have HX : Hid (ps[i]? = some (x, r)) := hX
  have HPRE : Hid (Pre base M0 S w s N L ps gb gl) := h
  obtain ⟨k, p, t, cl, l, nn, ls⟩ := e
  obtain ⟨xp, xd, xq, xb, xw⟩ := x
  have hwb : (xw != -1) = true := by simpa using hw
  unfold edV
  simp only at CW ⊢
  have hst := run_store_str
  clear h hs hi hd hiq hX hF0 hg0 hiN hpos hw
  go_enter Tryz.func53, Tryz.ntmps53
  go_wp2_with (first
    | (go_at_call 97; refine (CW.out _ (bel_tr (bel_al _ _) (bel_al _ _))).mono ?_; rintro e w1 ⟨rfl, c1⟩; have B1 : Hid (Below w.heap.size w w1) := bel_tr (bel_tr (bel_al _ _) (bel_al _ _)) c1; have hP1 := HPRE.out.below B1.out; have n4 := ((hP1.lies (hP1.free' HX.out).2.2.2.1).at' HX.out).c4; simp only at n4; clear hP1 c1)
    | (go_at_call 18; refine (refuse_yes _ _).mono ?_; rintro e w2 ⟨rfl, hw2⟩; subst hw2))
  exact left_post rfl (LeftR.of B1.out)

/-! ### quotas -/
set_option maxRecDepth 100000 in
set_option maxHeartbeats 4000000 in
theorem setQuota_ok {base M0 S : Nat} {w : World} {s : Sp} {N L : RS} {ps : List NR} {gb : Nat} {gl : Option Nat} (h : Pre base M0 S w s N L ps gb gl) (e : Ed) (ea : Option Addr) (em eq : Nat) (hs : e.p.size ≤ maxLen) (hR : Right s.ns) (i : Nat) (x : Nd) (hi : Is s.ns e.p i x) (hd : x.dir = true) (hq : e.n ≠ -1 → (cntL s.ns e.p : Int) ≤ e.n) :
    Calls Tryz.prog 50 #[.pointer (some ⟨S, 0, none⟩), edV e ea em eq] w fun r w' => UnitR S base M0 ⟨s.tx, s.nb, s.ng, s.now, s.ns.set i (withQu x e.n), s.ls⟩ w r w' := by
  have hiq : Is (ps.map (·.1)) e.p i x := by rw [h.own.map]; exact hi
  obtain ⟨r, hX⟩ := is_at' hiq
  obtain ⟨hF0, hg0, hiN, hpos, _⟩ := h.free' hX
  have hxs : x.path.size ≤ maxLen := hF0.ok.small
  have CN : Hid (∀ W, Below w.heap.size w W → Calls Tryz.prog 95 #[.pointer (some ⟨S, 0, none⟩), .string e.p] W fun e w' => e = .returned (.pointer (some ⟨gb, i * 5, none⟩)) ∧ Below W.heap.size W w') := fun W hb => nodeAt_ok ((h.below hb).lies hpos).c4 ((h.below hb).lies hpos).nl e.p hs i x hiq
  have HX : Hid (ps[i]? = some (x, r)) := hX
  have HPRE : Hid (Pre base M0 S w s N L ps gb gl) := h
  have HNA : Hid (N.a = some ⟨gb, 0, none⟩) := h.na
  have CQ : Hid (∀ W, Below w.heap.size w W → Calls Tryz.prog 96 #[.slice (some ⟨gb, 0, none⟩) N.n N.c, .string e.p] W fun r' w' => r' = .returned (.int .i64 (cntL s.ns e.p : Int)) ∧ Below W.heap.size W w') := fun W hb => by
    have := ((h.below hb).lies hpos).nl
    rw [h.own.map] at this
    exact count_val this true ⟨fun _ => hR, fun _ => rfl⟩ e.p hs _ rfl
  have CR : Hid (∀ E W, Calls Tryz.prog 18 #[.bool false, .int .i64 E] W fun e w' => e = .returned (.tuple #[]) ∧ W = w') := fun E W => (refuse_no E W).mono fun e w' ⟨h1, h2⟩ => ⟨h1, h2.symm⟩
  have CRB : Hid (∀ E W, Calls Tryz.prog 18 #[.bool false, .int .i64 E] W fun e w' => e = .returned (.tuple #[]) ∧ Below W.heap.size W w') := fun E W => (refuse_no E W).mono fun e w' ⟨h1, h2⟩ => ⟨h1, by rw [h2]; exact Below.refl _ _⟩
  obtain ⟨k, p, t, cl, l, nn, ls⟩ := e
  obtain ⟨xp, xd, xq, xb, xw⟩ := x
  obtain ⟨ra, rn, rc⟩ := r
  simp only at hd HX hxs hq ⊢
  subst hd
  have HN3 : Hid (∀ w2, Below w.heap.size w w2 → Pre base M0 S (w2.setCell ⟨gb, i * 5 + 2, none⟩ (.int .i64 nn)) ⟨s.tx, s.nb, s.ng, s.now, s.ns.set i ⟨xp, true, nn, xb, xw⟩, s.ls⟩ N L (ps.set i (⟨xp, true, nn, xb, xw⟩, ⟨ra, rn, rc⟩)) gb gl ∧ Stay (fun k => k = gb) w2 (w2.setCell ⟨gb, i * 5 + 2, none⟩ (.int .i64 nn))) := fun w2 hb => 
    (HPRE.out.below hb).f' HX.out 2 (by omega) (.int .i64 nn) ⟨xp, true, nn, xb, xw⟩ (fun j => by
      match j with
      | 0 => rfl
      | 1 => rfl
      | 2 => rfl
      | 3 => rfl
      | 4 => rfl
      | j + 5 => rfl) rfl hxs
  obtain ⟨C, hC⟩ : ∃ C : Int, (cntL s.ns p : Int) = C := ⟨_, rfl⟩
  unfold edV
  simp only at CN CQ ⊢
  rw [hC] at CQ hq
  have hst := run_store_str
  have hst2 : ∀ (w : World) (a : Addr) (x : Option Addr) (n c : Nat) (m : Mode), (store a (.slice x n c) m).run Tryz.prog w = stored Tryz.prog w a (.slice x n c) m := fun w a x n c m => run_store_any w a _ m rfl
  clear h hs hi hiq hX hF0 hg0 hiN hpos hxs hR hC
  have tail : ∀ w2, Below w.heap.size w w2 → UnitR S base M0 ⟨s.tx, s.nb, s.ng, s.now, s.ns.set i (withQu ⟨xp, true, xq, xb, xw⟩ nn), s.ls⟩ w (.returned (.tuple #[])) (w2.setCell ⟨gb, i * 5 + 2, none⟩ (.int .i64 nn)) := fun w2 hb => by
    obtain ⟨h1, h2⟩ := HN3.out w2 hb
    have hgb := HPRE.out.lt
    exact ⟨⟨N, L, _, some gb, gl, rfl, h1.c, h1.own.m, fun k hk => .inl (by cases hk; exact h1.m1), fun k hk => .inl (h1.m2 k hk), fun x hx k hk => .inl (h1.m3 x hx k hk)⟩, (Stay.of_below hb).trans h2 (fun k _ e => .inr ⟨by omega, by omega⟩)⟩
  have HT : Hid _ := tail
  clear tail
  by_cases hn1 : nn = -1
  · have hnb : (nn != -1) = false := by simp [hn1]
    clear hq hn1
    go_enter Tryz.func50, Tryz.ntmps50
    go_wp2_with (first
      | (go_at_call 95; refine (CN.out _ (bel_al _ _)).mono ?_; rintro e w1 ⟨rfl, c1⟩; have B1 : Hid (Below w.heap.size w w1) := bel_tr (bel_al _ _) c1; have y1 := bel_cell c1 (World.cell?_alloc_new w _ _ 1); have y5 := bel_cell c1 (World.cell?_alloc_new w _ _ 5); have hP1 := HPRE.out.below B1.out; obtain ⟨n0, n1, n2, n3, n4⟩ := (hP1.lies (hP1.free' HX.out).2.2.2.1).at' HX.out; simp only at n0 n1 n2 n3 n4; clear hP1 c1)
      | (go_at_call 18; refine (CR.out _ _).mono ?_; rintro e w2 ⟨rfl, rfl⟩))
    have r5 : ∀ dd os, (Sort.grow (redrawn w1 dd) os).cell? ⟨w.heap.size, 5, none⟩ = some (.int .i64 nn) := fun dd os => cell_regrown y5 dd os
    refine wp_region_quiet_below (by kernel_rfl) (by kernel_rfl) ?_
    repeat (first | go_big_quiet_step (exact Calls.regrown_of (CRB.out _ _)) | quiet_step (exact Calls.regrown_of (CRB.out _ _)))
    refine wpQuiet_nil ?_
    intro _ hw'
    obtain ⟨⟨dq, osq⟩, hw''⟩ := hw'
    subst hw''
    have B5 : Hid (Below w.heap.size w (Sort.grow (redrawn w1 dq) osq)) := bel_tr B1.out (below_regrown w1 dq osq)
    have z5 := r5 dq osq
    have hP5 := HPRE.out.below B5.out
    have v2 := ((hP5.lies (hP5.free' HX.out).2.2.2.1).at' HX.out).c2
    have hfz := (hP5.free' HX.out).2.2.2.2 2 (by omega)
    have HT5 : Hid _ := HT.out _ B5.out
    simp only at v2
    clear r5 hP5
    generalize Sort.grow (redrawn w1 dq) osq = w5 at *
    go_wp2
    first | go_end0 | refine bodyPost_ret (results_none rfl _ _ _) rfl ?_
    exact HT5.out
  · have hnb : (nn != -1) = true := by simpa using hn1
    have hlt : decide (nn < C) = false := decide_eq_false (by have := hq hn1; omega)
    clear hq hn1
    go_enter Tryz.func50, Tryz.ntmps50
    go_wp2_with (first
      | (go_at_call 95; refine (CN.out _ (bel_al _ _)).mono ?_; rintro e w1 ⟨rfl, c1⟩; have B1 : Hid (Below w.heap.size w w1) := bel_tr (bel_al _ _) c1; have y1 := bel_cell c1 (World.cell?_alloc_new w _ _ 1); have y5 := bel_cell c1 (World.cell?_alloc_new w _ _ 5); have hP1 := HPRE.out.below B1.out; obtain ⟨n0, n1, n2, n3, n4⟩ := (hP1.lies (hP1.free' HX.out).2.2.2.1).at' HX.out; have k4 := (hP1.lies (hP1.free' HX.out).2.2.2.1).c4; simp only at n0 n1 n2 n3 n4; clear hP1 c1)
      | (go_at_call 18; refine (CR.out _ _).mono ?_; rintro e w2 ⟨rfl, rfl⟩))
    have r5 : ∀ dd os, (Sort.grow (redrawn w1 dd) os).cell? ⟨w.heap.size, 5, none⟩ = some (.int .i64 nn) := fun dd os => cell_regrown y5 dd os
    have r1 : ∀ dd os, (Sort.grow (redrawn w1 dd) os).cell? ⟨w.heap.size, 1, none⟩ = some (.string p) := fun dd os => cell_regrown y1 dd os
    have r4 : ∀ dd os, (Sort.grow (redrawn w1 dd) os).cell? ⟨S, 4, none⟩ = some (.slice (some ⟨gb, 0, none⟩) N.n N.c) := fun dd os => cell_regrown k4 dd os
    have CQ2 : Hid (∀ dd os, Calls Tryz.prog 96 #[.slice (some ⟨gb, 0, none⟩) N.n N.c, .string p] (Sort.grow (redrawn w1 dd) os) fun r' w' => r' = .returned (.int .i64 C) ∧ Below (Sort.grow (redrawn w1 dd) os).heap.size (Sort.grow (redrawn w1 dd) os) w') := fun dd os => CQ.out _ (bel_tr B1.out (below_regrown w1 dd os))
    refine wp_region_quiet_below (by kernel_rfl) (by kernel_rfl) ?_
    repeat (first | go_big_quiet_step (first | exact Calls.regrown_of (CRB.out _ _) | exact Calls.regrown_of (CQ2.out _ _)) | quiet_step (first | exact Calls.regrown_of (CRB.out _ _) | exact Calls.regrown_of (CQ2.out _ _)))
    refine wpQuiet_nil ?_
    intro _ hw'
    obtain ⟨⟨dq, osq⟩, hw''⟩ := hw'
    subst hw''
    have B5 : Hid (Below w.heap.size w (Sort.grow (redrawn w1 dq) osq)) := bel_tr B1.out (below_regrown w1 dq osq)
    have z5 := r5 dq osq
    have hP5 := HPRE.out.below B5.out
    have v2 := ((hP5.lies (hP5.free' HX.out).2.2.2.1).at' HX.out).c2
    have hfz := (hP5.free' HX.out).2.2.2.2 2 (by omega)
    have HT5 : Hid _ := HT.out _ B5.out
    simp only at v2
    clear r5 r1 r4 CQ2 hP5
    generalize Sort.grow (redrawn w1 dq) osq = w5 at *
    go_wp2
    first | go_end0 | refine bodyPost_ret (results_none rfl _ _ _) rfl ?_
    exact HT5.out

end Go.Proofs.YticiihjkgiookaaGreat.Spa

/- The contracts of Apply's deferred closure. -/
namespace Go.Proofs.YticiihjkgiookaaGreat.Spa
open Go.RowKit Go.Proofs.YticiihjkgiookaaGreat
open Go.Proofs.YticiihjkgiookaaGreat.Lea (LS Ls findX putL renX LL LO LsR lsC wideL)
open Go.Proofs.YticiihjkgiookaaGreat.Edi (Ed Nm EdAt edV)

set_option maxRecDepth 100000 in
set_option maxHeartbeats 2000000 in
theorem catch_panic {R A : Nat} {w : World} {s0 : Sp} {N0 L0 : RS} {E0 : Int} {b0 : Blk} {T0 : RS} {x0 : NR} {n0 : Int} (hR : SpC w R s0 N0 L0) (hA : AnC w A E0 b0 T0 x0 n0) (hne : R ≠ A) (E : Int) (older : List PanicEntry) :
    CallsD Tryz.prog 16 #[.pointer (some ⟨R, 0, none⟩), .pointer (some ⟨A, 0, none⟩)] (.panicking ({ v := .iface 29 (.int .i64 E), recovered := false } :: older)) w fun e u' w' =>
      e = .returned (.tuple #[]) ∧ u' = .panicking ({ v := .iface 29 (.int .i64 E), recovered := true } :: older) ∧ w' = put11 (put6 w R zeroS noS noS) A E zeroB noS zeroX 0 := by
  refine callsD_of_wpS Tryz.func16 rfl fun c₀ cs hu => ?_
  apply wpS_seq
  apply wpS_region
  simp [wpOpsS, go_sem, recoverD, hu, Tryz.ntmps16, Exit.thenS]
  refine wpS_of_wp ?_
  have hst := run_store_str
  have hst2 : ∀ (w : World) (a : Addr) (x : Option Addr) (n c : Nat) (m : Mode), (store a (.slice x n c) m).run Tryz.prog w = stored Tryz.prog w a (.slice x n c) m := fun w a x n c m => run_store_any w a _ m rfl
  obtain ⟨p0, p1, p2, p3, p4, p5, pf⟩ := hR
  obtain ⟨a0, a1, a2, a3, a4, a5, a6, a7, a8, a9, a10, af⟩ := hA
  have CR : Hid (∀ W, Calls Tryz.prog 17 #[.iface 29 (.int .i64 E)] W fun e w' => e = .returned (.int .i64 E) ∧ W = w') := fun W => (reason_val E W).mono fun e w' ⟨h1, h2⟩ => ⟨h1, h2.symm⟩
  have hne2 : ¬ A = R := fun e => hne e.symm
  go_wp2_with (go_at_call 17; refine (CR.out _).mono ?_; rintro e w1 ⟨rfl, rfl⟩)
  exact ⟨rfl, _, rfl, .tuple #[], by simp [results, Tryz.results16], rfl, rfl, rfl⟩

set_option maxRecDepth 100000 in
theorem catch_idle {R A : Nat} {w : World} :
    CallsD Tryz.prog 16 #[.pointer (some ⟨R, 0, none⟩), .pointer (some ⟨A, 0, none⟩)] .returning w fun e u' w' => e = .returned (.tuple #[]) ∧ u' = .returning ∧ w' = w := by
  refine callsD_of_wpS Tryz.func16 rfl fun c₀ cs hu => ?_
  apply wpS_seq
  apply wpS_region
  simp [wpOpsS, go_sem, recoverD, hu, Tryz.ntmps16, Exit.thenS]
  refine wpS_of_wp ?_
  go_wp2
  cases c₀
  simp_all [bodyPostS, results, Tryz.results16]

end Go.Proofs.YticiihjkgiookaaGreat.Spa

/- The contract of space.Blocks. -/
namespace Go.Proofs.YticiihjkgiookaaGreat.Spa
open Go.RowKit Go.Proofs.YticiihjkgiookaaGreat
open Go.Proofs.YticiihjkgiookaaGreat.Lea (LS Ls findX putL renX LL LO LsR lsC wideL)
open Go.Proofs.YticiihjkgiookaaGreat.Edi (Ed Nm EdAt edV)

end Go.Proofs.YticiihjkgiookaaGreat.Spa
