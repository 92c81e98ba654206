/- Part 27 of the proof: SpaceF2, SpaceF3, SpaceF4, SpaceF6, SpaceF5. -/
import Derived.Test.YtcnflkjkgomnoaaGreatB22
import Derived.Test.YtcnflkjkgomnoaaGreatB26
import Derived.Shelf.SlSortCmp.NoneTotal
set_option maxRecDepth 100000
set_option maxHeartbeats 8000000
namespace Go.Proofs.YtcnflkjkgomnoaaGreat.Spa
open Go.RowKit Go.Proofs.YtcnflkjkgomnoaaGreat
def cmpB (x y : Blk) : Int := Lea.cmpI x.id y.id
theorem ltOf_cmp (x y : Blk) : ltOf cmpB x y = decide (x.id < y.id) := by
  unfold ltOf cmpB; rw [Bool.eq_iff_iff, decide_eq_true_eq, decide_eq_true_eq]
  exact Lea.cmpI_neg
theorem swoB : Sort.SWO (ltOf cmpB) where
  irrefl x := by rw [ltOf_cmp]; simp
  trans x y z h1 h2 := by rw [ltOf_cmp] at *; simp at *; omega
  ntrans x y z h1 h2 := by rw [ltOf_cmp] at *; simp at *; omega
theorem gath1_val (x y : Blk) (w : World) : Calls Tryz.prog 128 #[.agg #[.int .i64 x.id, .int .i64 x.gen, .int .i64 x.len], .agg #[.int .i64 y.id, .int .i64 y.gen, .int .i64 y.len]] w fun e w' => e = .returned (.int .i64 (cmpB x y)) ∧ ∃ q os', w' = Sort.grow (w.drewN q) os' := by
  obtain ⟨i, g, l⟩ := x
  obtain ⟨i2, g2, l2⟩ := y
  unfold cmpB; simp only
  obtain ⟨r, hr⟩ : ∃ r, Lea.cmpI i i2 = r := ⟨_, rfl⟩
  have CC : Hid (∀ W, Calls Tryz.prog 129 #[.int .i64 i, .int .i64 i2] W fun e w' => e = .returned (.int .i64 r) ∧ w' = W) := fun W => Lea.compare_val i i2 r W hr
  rw [hr]
  clear hr; go_enter Tryz.func128, Tryz.ntmps128; go_wp2_with (refine (CC.out _).mono ?_; rintro e w1 ⟨rfl, rfl⟩)
  go_ret; exact ⟨rfl, 0, _, by rw [Sort.alloc_eq_grow, Sort.alloc_eq_grow, Sort.grow_grow]; rfl⟩
theorem bk_get (ps : List Blk) (i : Nat) (hi : i < ps.length) : ps.toArray[i]! = ps[i] := by
  simp [hi]
theorem holds_of_cel {O : Nat → Prop} {w : World} {blk n c : Nat} {ps : List Blk} (h : Cel O w 3 (.slice (some ⟨blk, 0, none⟩) n c) n (rowC blkC ps) (some blk)) (hn : ps.length = n) : Sort.HoldsK blkC 3 w blk 0 ps.toArray := by
  obtain ⟨hc1, hc2, _⟩ := h.cap2
  intro t ht
  rw [Sort.size_flatK, List.size_toArray] at ht
  have hd : t / 3 < ps.length := by omega
  have e := rowC_at wideB ps (t / 3) hd (t % 3) (by omega)
  have e2 : t / 3 * 3 + t % 3 = t := by omega
  rw [e2] at e
  have hl : t < (rowC blkC ps).length := by rw [rowC_len wideB]; exact ht
  have hc := h.cell t hl
  refine ⟨?_, ?_⟩
  · rw [Nat.zero_add, hc, Sort.get_flatK _ _ _ _ (by rw [List.size_toArray]; exact ht), bk_get ps _ hd]
    rw [List.getElem?_eq_getElem hl] at e
    have e3 : (blkC ps[t / 3])[t % 3]! = (rowC blkC ps)[t] := by
      rw [List.getElem!_eq_getElem?_getD, ← e]; rfl
    rw [e3]; rfl
  · rw [Nat.zero_add]
    have : n * 3 ≤ c * 3 := Nat.mul_le_mul_right _ hc1
    exact (h.live t (by omega)).2
theorem cel_of_holds {O : Nat → Prop} {w w' : World} {blk n c : Nat} {ps qs : List Blk} (h : Cel O w 3 (.slice (some ⟨blk, 0, none⟩) n c) n (rowC blkC ps) (some blk)) (hq : qs.length = n) (hH : Sort.HoldsK blkC 3 w' blk 0 qs.toArray) (hs : w.heap.size ≤ w'.heap.size)
    (hlive : ∀ j, j < c * 3 → (w'.cell? ⟨blk, j, none⟩).isSome = true ∧ w'.frozen? ⟨blk, j, none⟩ = false) : Cel O w' 3 (.slice (some ⟨blk, 0, none⟩) n c) n (rowC blkC qs) (some blk) := by
  obtain ⟨hc1, hc2, _⟩ := h.cap2
  obtain ⟨h3, h2⟩ := h.lt
  refine .row blk c rfl (by rw [rowC_len wideB, hq]) h2 (by omega) hc1 hc2 (fun t ht => ?_) hlive
  rw [rowC_len wideB] at ht
  have hd : t / 3 < qs.length := by omega
  have hc := (hH t (by rw [Sort.size_flatK, List.size_toArray]; exact ht)).1
  rw [Nat.zero_add, Sort.get_flatK _ _ _ _ (by rw [List.size_toArray]; exact ht), bk_get qs _ hd] at hc
  rw [hc]
  have e := rowC_at wideB qs (t / 3) hd (t % 3) (by omega)
  have e2 : t / 3 * 3 + t % 3 = t := by omega
  rw [e2] at e
  have hl : t < (rowC blkC qs).length := by rw [rowC_len wideB]; exact ht
  rw [List.getElem?_eq_getElem hl] at e
  have e3 : (blkC qs[t / 3])[t % 3]! = (rowC blkC qs)[t] := by
    rw [List.getElem!_eq_getElem?_getD, ← e]; rfl
  rw [e3]; rfl
theorem sorted_stay (w : World) (blk m : Nat) (d : Array Blk) (os : Array Obj) : Stay (fun k => some blk = some k) w (sortWorldK blkC 3 w blk 0 m d os) := by
  refine ⟨rfl, rfl, rfl, size_sortWorldK_c blkC 3 w blk 0 m d os, fun k hk hne => ?_⟩
  unfold sortWorldK; have hb : k ≠ blk := fun e => hne (by rw [e])
  have h1 : k < (Sort.putRowK blkC 3 (Sort.ahead w m) blk 0 d).heap.size := by rw [Sort.size_putRowK]; exact hk
  rw [Sort.heap_grow_old _ _ h1]
  unfold Sort.putRowK Sort.putRow Sort.mapBlock; simp only [Array.getElem?_modify]
  rw [if_neg (fun e => hb e.symm)]
  rfl
theorem sorted_live (w : World) (blk m j : Nat) (d0 d : Array Blk) (os : Array Obj) (hblk : blk < w.heap.size) (hH : Sort.HoldsK blkC 3 w blk 0 d0) (hs : d.size = d0.size) (h : (w.cell? ⟨blk, j, none⟩).isSome = true ∧ w.frozen? ⟨blk, j, none⟩ = false) :
    ((sortWorldK blkC 3 w blk 0 m d os).cell? ⟨blk, j, none⟩).isSome = true ∧ (sortWorldK blkC 3 w blk 0 m d os).frozen? ⟨blk, j, none⟩ = false := by
  have h1 : blk < (Sort.putRowK blkC 3 (Sort.ahead w m) blk 0 d).heap.size := by rw [Sort.size_putRowK]; exact hblk
  constructor
  · by_cases hj : j < d.size * 3
    · have := (holdsK_sortWorldK_c blkC 3 w blk 0 d0 d m os hH hblk hs j (by rw [Sort.size_flatK]; exact hj)).1
      rw [Nat.zero_add] at this
      rw [this]; rfl
    · unfold sortWorldK
      rw [Sort.cell?_grow _ _ _ h1]
      unfold Sort.putRowK; rw [Sort.cell?_putRow_other _ _ _ _ _ _ (.inr (.inr (by rw [Sort.size_flatK]; show 0 + d.size * 3 ≤ j; omega)))]
      exact h.1
  · unfold sortWorldK
    rw [Sort.frozen?_grow _ _ _ h1]
    unfold Sort.putRowK; rw [Sort.frozen?_putRow]
    exact h.2
theorem perm_of_in {d d' : Array Blk} (h : Sort.PermIn 0 d.size d d') : d'.toList.Perm d.toList := by
  obtain ⟨h1, _, h3⟩ := h
  have e1 : d'.extract 0 d.size = d' := by rw [← h1]; simp
  have e2 : d.extract 0 d.size = d := by simp
  rw [e1, e2] at h3
  exact h3
theorem sorted_of_in {d' : Array Blk} {n : Nat} (hn : d'.size = n) (h : Sort.SortedIn (ltOf cmpB) 0 n d') : d'.toList.Pairwise (fun x y => x.id ≤ y.id) := by
  rw [List.pairwise_iff_getElem]
  intro i j hi hj hij
  rw [Array.length_toList] at hi hj
  have := h i j (Nat.zero_le _) hij (by omega)
  rw [ltOf_cmp] at this
  have e1 : d'[i]! = d'[i] := by simp [hi]
  have e2 : d'[j]! = d'[j] := by simp [hj]
  rw [e1, e2] at this
  simpa using this
structure Sorted (base : Nat) (bs : List Blk) (a : Option Addr) (m c : Nat) (ys : List Blk) (w' : World) : Prop where
  len : ys.length = m
  perm : ys.Perm bs
  up : ys.Pairwise (fun x y => x.id ≤ y.id)
  cel : ∃ g, Cel (fun k => base ≤ k) w' 3 (.slice a m c) m (rowC blkC ys) g
theorem sort_val {base m c : Nat} {a : Option Addr} {bs : List Blk} {w : World} {g : Option Nat} (h : Cel (fun k => base ≤ k) w 3 (.slice a m c) m (rowC blkC bs) g) (hl : bs.length = m) (hB : base ≤ w.heap.size) (hp : 0 < m) (hm : m ≤ 1000) :
    Calls Tryz.prog 127 #[.slice a m c, .func (.func 128) #[] #[]] w fun e w' => e = .returned (.tuple #[]) ∧ (∃ ys, Sorted base bs a m c ys w') ∧ Below base w w' := by
  obtain ⟨blk, rfl, rfl⟩ := h.at2 hp
  have hlt := h.lt.1
  have hH := holds_of_cel h hl
  have eg : ∀ args w, (callFunc 128 args).run Tryz.prog w = .ok (.enter 128 args) w := enters_of Tryz.func128 (by kernel_rfl) rfl
  have hcmp : CmpLays Tryz.prog 128 #[] blkC 3 cmpB blk 0 bs.toArray.size w := fun _ _ _ _ x y => gath1_val x y _
  have hcon := AnyQ.slices_SortFunc sortBk 3 Tryz.isAgg31 Tryz.sizeOf31 blkC (fun _ => rfl) (fun x v hv => wideB.one x v hv) cmpB swoB 128 #[] blk 0 c bs.toArray w eg hcmp hH hlt (by rw [List.size_toArray]; omega)
  rw [List.size_toArray, hl] at hcon
  change Calls Tryz.prog 127 _ _ _ at hcon
  refine hcon.mono fun e w' ⟨he, d', q, os, hP, hS, hw⟩ => ?_
  have hsA : bs.toArray.size = m := by simp [hl]
  have hsz : d'.size = m := by
    have := hP.1
    omega
  have hperm : d'.toList.Perm bs := perm_of_in (by rw [List.size_toArray, hl]; exact hP)
  have hst : Stay (fun k => some blk = some k) w w' := by rw [hw]; exact sorted_stay w blk q d' os
  have hdl : d'.toList.length = m := by rw [Array.length_toList]; exact hsz
  have hH' : Sort.HoldsK blkC 3 w' blk 0 d'.toList.toArray := by
    rw [hw]
    exact holdsK_sortWorldK_c blkC 3 w blk 0 bs.toArray d'.toList.toArray q os hH hlt (by rw [List.size_toArray, List.size_toArray]; omega)
  have hcel := cel_of_holds h hdl hH' hst.size (fun j hj => by
    rw [hw]
    exact sorted_live w blk q j bs.toArray d' os hlt hH (by omega) (h.live j hj))
  exact ⟨he, ⟨d'.toList, hdl, hperm, sorted_of_in hsz hS, _, hcel⟩, hst.below hB (fun k hk => by cases hk; exact h.lt.2)⟩
theorem sort_none {a : Option Addr} {c : Nat} {w : World} : Calls Tryz.prog 127 #[.slice a 0 c, .func (.func 128) #[] #[]] w fun e w' => e = .returned (.tuple #[]) ∧ w' = w :=
  AnyF.slices_SortFunc_none sortBk a c _ w
theorem sort_any {base m c : Nat} {a : Option Addr} {bs : List Blk} {w : World} {g : Option Nat} (h : Cel (fun k => base ≤ k) w 3 (.slice a m c) m (rowC blkC bs) g) (hl : bs.length = m) (hB : base ≤ w.heap.size) (hm : m ≤ 1000) :
    Calls Tryz.prog 127 #[.slice a m c, .func (.func 128) #[] #[]] w fun e w' => e = .returned (.tuple #[]) ∧ (∃ ys, Sorted base bs a m c ys w') ∧ Below base w w' := by
  by_cases hp : 0 < m
  · exact sort_val h hl hB hp hm
  · obtain rfl : m = 0 := by omega
    have e : bs = [] := List.length_eq_zero_iff.1 hl
    subst e; refine sort_none.mono fun e w' ⟨h1, h2⟩ => ?_
    subst h2; exact ⟨h1, ⟨[], rfl, List.Perm.refl _, List.Pairwise.nil, g, h⟩, Below.refl _ _⟩
theorem blks_few {xs : NS} (h8 : ∀ x ∈ xs, x.bs.length ≤ 8) : (blksL xs).length ≤ xs.length * 8 := by
  induction xs with
  | nil => simp [blksL]
  | cons x xs ih =>
    have h1 := h8 x (by simp)
    have h2 := ih (fun y hy => h8 y (List.mem_cons_of_mem _ hy))
    have e : blksL (x :: xs) = x.bs ++ blksL xs := rfl
    rw [e, List.length_append, List.length_cons]
    omega
theorem blks_take {xs : NS} {i : Nat} (hi : i < xs.length) : blksL (xs.take (i + 1)) = blksL (xs.take i) ++ xs[i].bs := by
  rw [List.take_succ_eq_append_getElem hi, blks_app, blks_one]
theorem blks_sub {xs : NS} (i : Nat) : (blksL (xs.take i)).length ≤ (blksL xs).length := (sub_blks (List.take_sublist i xs)).length_le
structure GathR (base : Nat) (xs : NS) (e : Ending) (w' : World) : Prop where
  ex : ∃ a m c ys, e = .returned (.slice a m c) ∧ Sorted base (blksL xs) a m c ys w'
theorem gathered_val {a : Option Addr} {n c : Nat} {xs : NS} {w : World} (h : NL w a n xs) (hR : Right xs) :
    Calls Tryz.prog 89 #[.slice a n c] w fun e w' => GathR w.heap.size xs e w' ∧ Below w.heap.size w w' := by
  obtain ⟨ti, hi1, hi2, hi3, hi4⟩ := blkRow
  obtain ⟨b, off, ps, k1, k2, k3⟩ := h.ex
  have HK : Hid (Nds w a b off ps) := k3
  have HP : Hid (ps.length = n) := by show ps.length = n; rw [← k2, ← k1, List.length_map]
  have HM : Hid (ps.map (·.1) = xs) := k1
  have hn60 : n ≤ 60 := by rw [← k2]; exact hR.few
  have HF : Hid ((blksL xs).length ≤ 480) := by
    have := blks_few hR.few8
    have := hR.few
    show _ ≤ 480
    omega
  clear h k1 k2 k3 hR; go_enter Tryz.func89, Tryz.ntmps89; go_wp2; go_loopw [3, 5, 8] (fun v3 _ v8 wr => ∃ (i : Nat) (fa : Option Addr) (fn fc : Nat) (g : Option Nat), i ≤ n ∧ v8 = .int .i64 i ∧ v3 = .slice fa fn fc ∧ Cel (fun k => w.heap.size ≤ k) wr 3 (.slice fa fn fc) fn (rowC blkC (blksL (xs.take i))) g ∧ (blksL (xs.take i)).length = fn ∧ Below w.heap.size w wr) (fun _ _ v8 _ => n - (intOf v8).toNat)
  case atStart => exact ⟨0, none, 0, 0, none, by omega, rfl, rfl, .nil rfl rfl rfl, rfl, Below.refl _ _⟩
  case round =>
    obtain ⟨i, fa, fn, fc, g, hi, rfl, rfl, hL, hq, hb⟩ := hrel
    have HB : Hid (Below w.heap.size w wr) := hb
    have HL : Hid (Cel (fun k => w.heap.size ≤ k) wr 3 (.slice fa fn fc) fn (rowC blkC (blksL (xs.take i))) g) := hL
    have HQ : Hid ((blksL (xs.take i)).length = fn) := hq
    have hfn : fn ≤ 480 := by have := HF.out; have := blks_sub (xs := xs) i; omega
    by_cases hlt : i < n
    · have hip : i < ps.length := by rw [HP.out]; exact hlt
      have hix : i < xs.length := by rw [← HM.out, List.length_map]; exact hip
      have hK := HK.out.below hb
      obtain ⟨e0, e1, e2, e3, e4⟩ := hK.at hip
      obtain rfl := hK.addr (by omega)
      have hok := hK.ok _ (List.getElem_mem hip)
      have exi : ps[i].1 = xs[i] := by
        have := HM.out
        subst this; simp
      have hBT := blks_take hix
      rw [← exi] at hBT
      have HBT : Hid _ := hBT
      have hsn : ps[i].2.n ≤ 480 := by
        have h1 := HF.out
        have h2 := blks_sub (xs := xs) (i + 1)
        rw [hBT, List.length_append, hok.bs.len] at h2
        omega
      have HS : Hid (∀ o, Src Tryz.prog 3 33 (.slice ps[i].2.a ps[i].2.n ps[i].2.c) ps[i].2.n (rowC blkC ps[i].1.bs) (wr.alloc o)) := fun o => (hok.bs.below (bel_al wr o)).src (fun e => by
        rcases Nat.eq_zero_or_pos ps[i].2.n with h0 | h0
        · exact h0
        · obtain ⟨b, off, ha, _⟩ := hok.bs.cells h0
          rw [e] at ha; cases ha)
      have HSL : Hid (ps[i].1.bs.length = ps[i].2.n) := hok.bs.len
      clear hb hL hq hok exi hBT hix hK; generalize ps[i] = x at *
      obtain ⟨⟨p, d, q, bs, wb⟩, ⟨sa, sn, sc⟩⟩ := x
      simp only at e0 e1 e2 e3 e4 HBT HS HSL hsn
      have hst := run_store_str
      have hst2 := sto2
      have HAP : Hid (∀ o a2 c2 w4 g4, Cel (Grow (fun k => w.heap.size ≤ k) (wr.alloc o) w4) w4 3 (.slice a2 (fn + sn) c2) (fn + sn) (rowC blkC (blksL (xs.take i)) ++ rowC blkC bs) g4 → Stay (fun k => g = some k) (wr.alloc o) w4 → Cel (fun k => w.heap.size ≤ k) w4 3 (.slice a2 (fn + sn) c2) (fn + sn) (rowC blkC (blksL (xs.take (i + 1)))) g4 ∧ Below w.heap.size w w4) := fun o a2 c2 w4 g4 hC hS => by
        have z0 := HB.out.size
        rw [HBT.out, rowC_app]
        refine ⟨grow_base (by simp; omega) (fun k hk => hk) hC, (HB.out.trans ((bel_al wr o).mono (by omega))).trans (hS.below (by simp; omega) (fun k hk => ?_))⟩
        have := HL.out; rw [hk] at this; exact this.lt.2
      go_wp2_with (at_builtin; refine wpList_append_cel _ rfl _ _ 33 33 rfl 31 ti _ 3 24 Tryz.underlying33 hi1 hi2 hi3 hi4 rfl (O := fun k => w.heap.size ≤ k) _ fn _ g rfl (HL.out.below (bel_al _ _)) _ sn (rowC blkC bs) rfl (HS.out _) (by unfold maxLen; omega) (by omega) ?_; intro a5 c5 w5 g5 hC5 hS5 hf5; have HX : Hid _ := HAP.out _ a5 c5 w5 g5 hC5 hS5; clear hC5 hS5 hf5)
      go_roundw
      case rel => exact ⟨i + 1, a5, fn + sn, c5, g5, by omega, by go_num, rfl, HX.out.1, by rw [HBT.out, List.length_append, HQ.out, HSL.out], HX.out.2⟩
      case measure => simp [intOf]; omega
    · obtain rfl : i = n := by omega
      have hgd : decide ((i : Int) < (i : Int)) = false := decide_eq_false (by omega)
      have hall : xs.take i = xs := List.take_of_length_le (by rw [← HM.out, List.length_map, HP.out]; omega)
      rw [hall] at hL hq
      have CS : Hid (Calls Tryz.prog 127 #[.slice fa fn fc, .func (.func 128) #[] #[]] wr fun e w' => e = .returned (.tuple #[]) ∧ (∃ ys, Sorted w.heap.size (blksL xs) fa fn fc ys w') ∧ Below w.heap.size wr w') := sort_any hL hq hb.size (by omega)
      clear hb hL hq hlt hall; go_wp2_with (refine CS.out.mono ?_; rintro e w5 ⟨rfl, hS5, c5⟩; have HS5 : Hid _ := hS5; have B5 : Hid (Below w.heap.size w w5) := HB.out.trans c5; clear hS5 c5)
      go_ret; obtain ⟨ys, hS⟩ := HS5.out
      exact ⟨⟨fa, fn, fc, ys, rfl, hS⟩, B5.out⟩
open Go.Proofs.YtcnflkjkgomnoaaGreat.Lea (LS Ls findX putL renX LL LO LsR)
def spV (s : Sp) (N L : RS) : Value := .agg #[.int .i64 s.tx, .int .i64 s.nb, .int .i64 s.ng, .int .i64 s.now, .slice N.a N.n N.c, .slice L.a L.n L.c]
structure SpIn (w : World) (s : Sp) (N L : RS) : Prop where
  nl : NL w N.a N.n s.ns
  ll : LL w L.a L.n L.c s.ls
  nil : N.a = none → N.c = 0
theorem SpIn.below {w w' : World} {s : Sp} {N L : RS} (h : SpIn w s N L) (hb : Below w.heap.size w w') : SpIn w' s N L := ⟨h.nl.below hb, h.ll.below hb, h.nil⟩
def BksOk (s : Sp) : Prop := (blksL s.ns).Pairwise (fun a b => a.id ≠ b.id) ∧ ∀ b ∈ blksL s.ns, b.id < s.nb ∧ b.gen < s.ng
theorem Sorted.mono {b1 b2 : Nat} {bs : List Blk} {a : Option Addr} {m c : Nat} {ys : List Blk} {w : World} (h : Sorted b1 bs a m c ys w) (hb : b2 ≤ b1) : Sorted b2 bs a m c ys w := by
  obtain ⟨g, hc⟩ := h.cel
  exact ⟨h.len, h.perm, h.up, g, hc.stay (Nat.le_refl _) (fun _ _ => rfl) (fun _ e => Nat.le_trans hb e)⟩
theorem Sorted.at {base : Nat} {bs : List Blk} {a : Option Addr} {m c : Nat} {ys : List Blk} {w w' : World} (h : Sorted base bs a m c ys w) (hb : Below w.heap.size w w') (hp : 0 < m) : ∃ b, a = some ⟨b, 0, none⟩ ∧ ∀ j (hj : j < ys.length), w'.cell? ⟨b, j * 3, none⟩ = some (.int .i64 ys[j].id) ∧ w'.cell? ⟨b, j * 3 + 1, none⟩ = some (.int .i64 ys[j].gen) ∧ w'.cell? ⟨b, j * 3 + 2, none⟩ = some (.int .i64 ys[j].len) := by
  obtain ⟨g, hc⟩ := h.cel
  have hl := h.len
  obtain ⟨b, rfl, rfl⟩ := hc.at2 hp
  refine ⟨b, rfl, fun j hj => ?_⟩
  obtain ⟨b', e1, e2, e3⟩ := (hc.below hb).elem wideB hj hl
  cases e1
  exact ⟨e3 0 _ rfl, e3 1 _ rfl, e3 2 _ rfl⟩
structure UpTo (nb ng : Int) (ys : List Blk) (i : Nat) : Prop where
  lo : ∀ j (hj : j < ys.length), j < i → ys[j].id < nb ∧ ys[j].gen < ng
  up : ∀ j (hj : j + 1 < ys.length), j + 1 < i → ys[j].id ≠ ys[j + 1].id
theorem up_all {ys : List Blk} (h : ys.Pairwise (fun x y => x.id ≤ y.id)) (hu : ∀ j (hj : j + 1 < ys.length), ys[j].id ≠ ys[j + 1].id) : ys.Pairwise (fun x y => x.id ≠ y.id) := by
  rw [List.pairwise_iff_getElem] at *
  intro i j hi hj hij
  have h1 := h i (i + 1) hi (by omega) (by omega)
  have h2 := hu i (by omega)
  by_cases e : i + 1 = j
  · subst e; exact h2
  · have := h (i + 1) j (by omega) hj (by omega)
    omega
theorem blocksFit_val {s : Sp} {N L : RS} {w : World} (h : NL w N.a N.n s.ns) (hR : Right s.ns) (v : Bool) (hv : v = true ↔ BksOk s) :
    Calls Tryz.prog 44 #[spV s N L] w fun e w' => e = .returned (.bool v) ∧ Below w.heap.size w w' := by
  have CG : Hid (∀ o, Calls Tryz.prog 89 #[.slice N.a N.n N.c] (w.alloc o) fun e w' => GathR (w.alloc o).heap.size s.ns e w' ∧ Below (w.alloc o).heap.size (w.alloc o) w') := fun o => gathered_val (h.below (bel_al _ _)) hR
  have HV : Hid (v = true ↔ BksOk s) := hv
  have HF : Hid ((blksL s.ns).length ≤ 480) := by
    have := blks_few hR.few8
    have := hR.few
    show _ ≤ 480
    omega
  clear h hR hv; obtain ⟨tx, nb, ng, now, ns, ls⟩ := s
  obtain ⟨na, nn, nc⟩ := N
  obtain ⟨la, ln, lc⟩ := L
  unfold spV; simp only at CG HF ⊢
  have hst := run_store_str
  go_enter Tryz.func44, Tryz.ntmps44; go_wp2_with (go_at_call 89; refine (CG.out _).mono ?_; rintro e w1 ⟨⟨fa, m, fc, ys, rfl, hS⟩, c1⟩)
  have HS : Hid (Sorted w.heap.size (blksL ns) fa m fc ys w1) := hS.mono (by simp)
  have y1 := bel_cell c1 (World.cell?_alloc_new w _ _ 1)
  have y2 := bel_cell c1 (World.cell?_alloc_new w _ _ 2)
  have Y1 : Hid (w1.cell? ⟨w.heap.size, 1, none⟩ = some (.int .i64 nb)) := y1
  have Y2 : Hid (w1.cell? ⟨w.heap.size, 2, none⟩ = some (.int .i64 ng)) := y2
  have B1 : Hid (Below w.heap.size w w1) := bel_tr (bel_al _ _) c1
  have hm : m ≤ 480 := by rw [← hS.len, hS.perm.length_eq]; exact HF.out
  clear hS c1 y1 y2; go_loopw [5, 11] (fun _ v11 wr => ∃ i : Nat, i ≤ m ∧ v11 = .int .i64 i ∧ Below w1.heap.size w1 wr ∧ UpTo nb ng ys i) (fun _ v11 _ => m - (intOf v11).toNat)
  case atStart => exact ⟨0, by omega, rfl, Below.refl _ _, fun j hj h => by omega, fun j hj h => by omega⟩
  case round =>
    obtain ⟨i, hi, rfl, hb, hU⟩ := hrel
    have HB : Hid (Below w1.heap.size w1 wr) := hb
    have HU : Hid (UpTo nb ng ys i) := hU
    by_cases hlt : i < m
    · have hiy : i < ys.length := by rw [HS.out.len]; exact hlt
      obtain ⟨b, rfl, hat⟩ := HS.out.at hb (by omega)
      obtain ⟨e0, e1, e2⟩ := hat i hiy
      have y1 := bel_cell hb Y1.out
      have y2 := bel_cell hb Y2.out
      have q1 := cell_al y1
      have q2 := cell_al y2
      have HLO : Hid (¬ (ys[i].id < nb ∧ ys[i].gen < ng) → v = false) := fun hn => by
        rw [Bool.eq_false_iff]; intro e
        exact hn ((HV.out.1 e).2 _ (HS.out.perm.subset (List.getElem_mem hiy)))
      have HNX : Hid ((ys[i].id < nb ∧ ys[i].gen < ng) → (∀ j (hj : j < ys.length), j + 1 = i → ys[j].id ≠ ys[i].id) → UpTo nb ng ys (i + 1)) := fun h1 h2 => by
        refine ⟨fun j hj hji => ?_, fun j hj hji => ?_⟩
        · by_cases e : j = i
          · subst e; exact h1
          · exact hU.lo j hj (by omega)
        · by_cases e : j + 1 = i
          · subst e; exact h2 j (by omega) rfl
          · exact hU.up j hj (by omega)
      have HEQ : Hid (∀ j (hj : j < ys.length), j + 1 = i → ys[j].id = ys[i].id → v = false) := fun j hj e he => by
        rw [Bool.eq_false_iff]; intro e2
        have := pair_perm HS.out.perm.symm (HV.out.1 e2).1
        rw [List.pairwise_iff_getElem] at this
        exact this j i hj hiy (by omega) he
      cases c1 : decide (nb ≤ ys[i].id) with
      | true =>
        obtain rfl := HLO.out (by rw [decide_eq_true_eq] at c1; omega)
        clear HLO HNX HEQ hat hb hU y1 y2; generalize ys[i].id = bi at *
        generalize ys[i].gen = bg at *
        generalize ys[i].len = bl at *
        go_wp2; go_quiet (fail)
        go_wp2; go_ret; exact ⟨rfl, bel_tr B1.out (bel_tr HB.out (bel_tr (bel_al _ _) (bel_drewN _ _)))⟩
      | false =>
        cases c2 : decide (ng ≤ ys[i].gen) with
        | true =>
          obtain rfl := HLO.out (by rw [decide_eq_true_eq] at c2; omega)
          clear HLO HNX HEQ hat hb hU y1 y2; generalize ys[i].id = bi at *
          generalize ys[i].gen = bg at *
          generalize ys[i].len = bl at *
          go_wp2; go_quiet (fail)
          go_wp2; go_ret; exact ⟨rfl, bel_tr B1.out (bel_tr HB.out (bel_tr (bel_al _ _) (bel_drewN _ _)))⟩
        | false =>
          have hlo : ys[i].id < nb ∧ ys[i].gen < ng := by
            rw [decide_eq_false_iff_not] at c1 c2
            omega
          by_cases h0 : i = 0
          · have HX : Hid (UpTo nb ng ys (i + 1)) := HNX.out hlo (fun j hj e => by omega)
            clear HLO HNX HEQ hat hb hU y1 y2 hlo; generalize ys[i].id = bi at *
            generalize ys[i].gen = bg at *
            generalize ys[i].len = bl at *
            have h0i : decide (0 < i) = false := decide_eq_false (by omega)
            have h0j : decide ((0 : Int) < (i : Int)) = false := decide_eq_false (by omega)
            clear h0 hiy; go_wp2; go_quiet (fail)
            go_wp2; go_roundw
            case rel => exact ⟨i + 1, by omega, by go_num, bel_tr HB.out (bel_tr (bel_al _ _) (bel_drewN _ _)), HX.out⟩
            case measure => simp [intOf]; omega
          · obtain ⟨k, hk⟩ : ∃ k, i = k + 1 := ⟨i - 1, by omega⟩
            have hky : k < ys.length := by omega
            obtain ⟨f0, f1, f2⟩ := hat k hky
            have p0 := cell_al f0
            have h0i : decide (0 < i) = true := decide_eq_true (by omega)
            have h0j : decide ((0 : Int) < (i : Int)) = true := decide_eq_true (by omega)
            have hik : (i : Int) - 1 = (k : Int) := by omega
            have hkm : k < m := by omega
            cases c3 : (ys[k].id == ys[i].id) with
            | true =>
              obtain rfl := HEQ.out k hky hk.symm (by simpa using c3)
              clear HLO HNX HEQ hat hb hU y1 y2 hlo h0 f0 f1 f2; generalize ys[i].id = bi at *
              generalize ys[i].gen = bg at *
              generalize ys[i].len = bl at *
              generalize ys[k].id = ki at *
              clear hk hky hiy; go_wp2; go_quiet (fail)
              go_wp2; go_ret; exact ⟨rfl, bel_tr B1.out (bel_tr HB.out (bel_tr (bel_al _ _) (bel_drewN _ _)))⟩
            | false =>
              have HX : Hid (UpTo nb ng ys (i + 1)) := HNX.out hlo (fun j hj e => by
                obtain rfl : j = k := by omega
                simpa using c3)
              clear HLO HNX HEQ hat hb hU y1 y2 hlo h0 f0 f1 f2; generalize ys[i].id = bi at *
              generalize ys[i].gen = bg at *
              generalize ys[i].len = bl at *
              generalize ys[k].id = ki at *
              have HK : Hid (i = k + 1) := hk
              clear hk hky hiy; go_wp2; go_quiet (fail)
              go_wp2; go_roundw
              case rel => exact ⟨i + 1, by omega, by go_num, bel_tr HB.out (bel_tr (bel_al _ _) (bel_drewN _ _)), HX.out⟩
              case measure => simp [intOf]; omega
    · obtain rfl : i = m := by omega
      have hgd : decide ((i : Int) < (i : Int)) = false := decide_eq_false (by omega)
      have hv1 : v = true := HV.out.2 ⟨pair_perm HS.out.perm (up_all HS.out.up (fun j hj => hU.up j hj (by have := HS.out.len; omega))), fun b hb => by
        obtain ⟨j, hj, rfl⟩ := List.getElem_of_mem (HS.out.perm.symm.subset hb)
        exact hU.lo j hj (by have := HS.out.len; omega)⟩
      subst hv1; clear hb hU hlt; go_wp2; go_ret; exact ⟨rfl, bel_tr B1.out HB.out⟩
def Leased (s : Sp) : Prop := ∀ x ∈ s.ns, x.wr ≠ -1 → (Lea.untilX s.ls x.wr).2 = true
theorem allLeased_val {s : Sp} {N L : RS} {w : World} (h : SpIn w s N L) (v : Bool) (hv : v = true ↔ Leased s) :
    Calls Tryz.prog 46 #[spV s N L] w fun e w' => e = .returned (.bool v) ∧ Below w.heap.size w w' := by
  obtain ⟨b, off, ps, k1, k2, k3⟩ := h.nl.ex
  have HK : Hid (Nds w N.a b off ps) := k3
  have HP : Hid (ps.length = N.n) := by show ps.length = N.n; rw [← k2, ← k1, List.length_map]
  have HM : Hid (ps.map (·.1) = s.ns) := k1
  have HV : Hid (v = true ↔ Leased s) := hv
  have HLL : Hid (LL w L.a L.n L.c s.ls) := h.ll
  have hlid := h.nl.lid
  unfold maxLen at hlid; have CU : Hid (∀ W k u b, Below w.heap.size w W → Lea.untilX s.ls k = (u, b) → Calls Tryz.prog 92 #[.slice L.a L.n L.c, .int .i64 k] W fun e w' => e = .returned (.tuple #[.int .i64 u, .bool b]) ∧ Below W.heap.size W w') := fun W k u b hb hu => Lea.until_val (HLL.out.below hb) k u b hu
  clear h k1 k2 k3 hv; obtain ⟨tx, nb, ng, now, ns, ls⟩ := s
  obtain ⟨na, nn, nc⟩ := N
  obtain ⟨la, ln, lc⟩ := L
  unfold spV; simp only at CU HK HP HM hlid ⊢
  have hst := run_store_str
  have hst2 := sto2
  have Y5 : Hid (∀ t, (w.alloc (.cells #[.int .i64 tx, .int .i64 nb, .int .i64 ng, .int .i64 now, .slice na nn nc, .slice la ln lc] t)).cell? ⟨w.heap.size, 5, none⟩ = some (.slice la ln lc)) := fun t => World.cell?_alloc_new w _ _ 5
  go_enter Tryz.func46, Tryz.ntmps46; go_wp2; have y5 := Y5.out 27
  have B0 : Hid (Below w.heap.size w (w.alloc (.cells #[.int .i64 tx, .int .i64 nb, .int .i64 ng, .int .i64 now, .slice na nn nc, .slice la ln lc] 27))) := bel_al _ _
  generalize (w.alloc (.cells #[.int .i64 tx, .int .i64 nb, .int .i64 ng, .int .i64 now, .slice na nn nc, .slice la ln lc] 27)) = W0 at *
  have H5 : Hid (W0.cell? ⟨w.heap.size, 5, none⟩ = some (.slice la ln lc)) := y5
  clear y5 Y5; go_loopw [4, 5, 6, 10] (fun _ _ _ v10 wr => ∃ i : Nat, i ≤ nn ∧ v10 = .int .i64 i ∧ Below W0.heap.size W0 wr ∧ ∀ x ∈ ns.take i, x.wr ≠ -1 → (Lea.untilX ls x.wr).2 = true) (fun _ _ _ v10 _ => nn - (intOf v10).toNat)
  case atStart => exact ⟨0, by omega, rfl, Below.refl _ _, fun x hx => (by simp at hx)⟩
  case round =>
    obtain ⟨i, hi, rfl, hb, hU⟩ := hrel
    have HB : Hid (Below W0.heap.size W0 wr) := hb
    have BW : Hid (Below w.heap.size w wr) := bel_tr B0.out hb
    have HU : Hid (∀ x ∈ ns.take i, x.wr ≠ -1 → (Lea.untilX ls x.wr).2 = true) := hU
    by_cases hlt : i < nn
    · have hip : i < ps.length := by rw [HP.out]; exact hlt
      have hix : i < ns.length := by rw [← HM.out, List.length_map]; exact hip
      have hK := HK.out.below BW.out
      obtain ⟨e0, e1, e2, e3, e4⟩ := hK.at hip
      obtain rfl := hK.addr (by omega)
      have exi : ps[i].1 = ns[i] := by
        have := HM.out
        subst this; simp
      have HNX : Hid ((ps[i].1.wr ≠ -1 → (Lea.untilX ls ps[i].1.wr).2 = true) → ∀ x ∈ ns.take (i + 1), x.wr ≠ -1 → (Lea.untilX ls x.wr).2 = true) := fun h1 x hx => by
        rw [List.take_succ_eq_append_getElem hix] at hx
        rcases List.mem_append.1 hx with hx | hx
        · exact hU x hx
        · rw [List.mem_singleton.1 hx, ← exi]; exact h1
      have HNO : Hid (ps[i].1.wr ≠ -1 → (Lea.untilX ls ps[i].1.wr).2 = false → v = false) := fun h1 h2 => by
        rw [Bool.eq_false_iff]; intro e
        have := HV.out.1 e ns[i] (List.getElem_mem hix)
        rw [← exi] at this
        have := this h1
        rw [h2] at this; cases this
      have y5 := bel_cell hb H5.out
      have z5 := cell_al y5
      clear hb hU hK exi hix y5; generalize ps[i] = x at *
      obtain ⟨⟨p, d, q, bs, wb⟩, ⟨sa, sn, sc⟩⟩ := x
      simp only at e0 e1 e2 e3 e4 HNX HNO
      obtain ⟨⟨u, b2⟩, hu⟩ : ∃ y, Lea.untilX ls wb = y := ⟨_, rfl⟩
      have HUN : Hid (Lea.untilX ls wb = (u, b2)) := hu
      rw [hu] at HNX HNO
      simp only at HNX HNO
      clear hu; cases b2 with
      | true =>
        have HX : Hid _ := HNX.out (fun _ => rfl)
        clear HNX HNO; go_wp2_with (go_at_call 92; refine (CU.out _ _ _ _ (bel_tr BW.out (bel_al _ _)) HUN.out).mono ?_; rintro e w1 ⟨rfl, c1⟩; have B1 : Hid (Below wr.heap.size wr w1) := bel_tr (bel_al _ _) c1; clear c1)
        go_roundw
        case rel => exact ⟨i + 1, by omega, by go_num, bel_tr HB.out B1.out, HX.out⟩
        case measure => simp [intOf]; omega
      | false =>
        cases hw : (wb != -1) with
        | true =>
          obtain rfl := HNO.out (by simpa using hw) rfl
          clear HNX HNO; go_wp2_with (go_at_call 92; refine (CU.out _ _ _ _ (bel_tr BW.out (bel_al _ _)) HUN.out).mono ?_; rintro e w1 ⟨rfl, c1⟩; have B1 : Hid (Below wr.heap.size wr w1) := bel_tr (bel_al _ _) c1; have x4 := bel_cell c1 (World.cell?_alloc_new wr _ _ 4); clear c1)
          go_ret; exact ⟨rfl, bel_tr BW.out B1.out⟩
        | false =>
          have HX : Hid _ := HNX.out (fun e => absurd (by simpa using hw) e)
          clear HNX HNO; go_wp2_with (go_at_call 92; refine (CU.out _ _ _ _ (bel_tr BW.out (bel_al _ _)) HUN.out).mono ?_; rintro e w1 ⟨rfl, c1⟩; have B1 : Hid (Below wr.heap.size wr w1) := bel_tr (bel_al _ _) c1; have x4 := bel_cell c1 (World.cell?_alloc_new wr _ _ 4); clear c1)
          go_roundw
          case rel => exact ⟨i + 1, by omega, by go_num, bel_tr HB.out B1.out, HX.out⟩
          case measure => simp [intOf]; omega
    · obtain rfl : i = nn := by omega
      have hgd : decide ((i : Int) < (i : Int)) = false := decide_eq_false (by omega)
      have hv1 : v = true := HV.out.2 (by
        rw [List.take_of_length_le (by rw [← HM.out, List.length_map, HP.out]; omega)] at hU
        exact hU)
      subst hv1; clear hb hU hlt; go_wp2; go_ret; exact ⟨rfl, BW.out⟩
theorem rts_iff {s : Sp} : RtS s ↔ (0 ≤ s.tx ∧ s.tx ≤ 300) ∧ (1 ≤ s.nb ∧ s.nb ≤ 9007199254740991) ∧ (1 ≤ s.ng ∧ s.ng ≤ 9007199254740991) ∧ (0 ≤ s.now ∧ s.now ≤ 9007199254740981) ∧ Right s.ns ∧ overL s.ns = [] ∧ BksOk s ∧ Lea.Rt s.ls ∧ Leased s := by
  constructor
  · intro h
    exact ⟨h.tx, h.nb, h.ng, h.now, h.tree, h.over, ⟨h.ids, h.lo⟩, h.ls, fun x hx hw => by rw [Lea.untilX_yes h.ls]; exact h.wr x hx hw⟩
  · rintro ⟨h1, h2, h3, h4, h5, h6, h7, h8, h9⟩
    exact ⟨h1, h2, h3, h4, h5, h6, h7.1, h7.2, h8, fun x hx hw => by
      have := h9 x hx hw
      rwa [Lea.untilX_yes h8] at this⟩
theorem rightS_val {s : Sp} {N L : RS} {w : World} (h : SpIn w s N L) (u : Bool) (hu : u = true ↔ RtS s) :
    Calls Tryz.prog 22 #[spV s N L] w fun e w' => e = .returned (.bool u) ∧ Below w.heap.size w w' := by
  rw [rts_iff] at hu
  obtain ⟨tx, nb, ng, now, ns, ls⟩ := s
  obtain ⟨na, nn, nc⟩ := N
  obtain ⟨la, ln, lc⟩ := L
  have HN : Hid (NL w na nn ns) := h.nl
  have HS : Hid (SpIn w ⟨tx, nb, ng, now, ns, ls⟩ ⟨na, nn, nc⟩ ⟨la, ln, lc⟩) := h
  have CR : Hid (∀ W v, Below w.heap.size w W → (v = true ↔ Right ns) → Calls Tryz.prog 42 #[.slice na nn nc] W fun e w' => e = .returned (.bool v) ∧ Below W.heap.size W w') := fun W v hb hv => right_val (HN.out.below hb) v hv
  have CO : Hid (∀ W ys m, Below w.heap.size w W → Right ns → overL ns = ys → ys.length = m → Calls Tryz.prog 43 #[.slice na nn nc] W fun e w' => (∃ a c, e = .returned (.slice a m c)) ∧ Below W.heap.size W w') := fun W ys m hb hR hy hm => (over_val (HN.out.below hb) true ⟨fun _ => hR, fun _ => rfl⟩ ys hy m hm).mono fun e w' ⟨h1, h2⟩ => ⟨by obtain ⟨a, b, c, k, _⟩ := h1.ex; exact ⟨_, _, k⟩, h2⟩
  have CB : Hid (∀ W v, Below w.heap.size w W → Right ns → (v = true ↔ BksOk ⟨tx, nb, ng, now, ns, ls⟩) → Calls Tryz.prog 44 #[spV ⟨tx, nb, ng, now, ns, ls⟩ ⟨na, nn, nc⟩ ⟨la, ln, lc⟩] W fun e w' => e = .returned (.bool v) ∧ Below W.heap.size W w') := fun W v hb hR hv => blocksFit_val (s := ⟨tx, nb, ng, now, ns, ls⟩) (N := ⟨na, nn, nc⟩) (HN.out.below hb) hR v hv
  have CL : Hid (∀ W v, Below w.heap.size w W → (v = true ↔ Lea.Rt ls) → Calls Tryz.prog 45 #[.slice la ln lc] W fun e w' => e = .returned (.bool v) ∧ Below W.heap.size W w') := fun W v hb hv => Lea.right_val (HS.out.ll.below hb) v hv
  have CA : Hid (∀ W v, Below w.heap.size w W → (v = true ↔ Leased ⟨tx, nb, ng, now, ns, ls⟩) → Calls Tryz.prog 46 #[spV ⟨tx, nb, ng, now, ns, ls⟩ ⟨na, nn, nc⟩ ⟨la, ln, lc⟩] W fun e w' => e = .returned (.bool v) ∧ Below W.heap.size W w') := fun W v hb hv => allLeased_val (HS.out.below hb) v hv
  unfold spV at CB CA ⊢
  simp only at hu CB CA ⊢
  clear h HS HN; cases c0 : Edi.inB 0 tx 300 with
  | false =>
    have hu0 : u = false := by
      rw [Bool.eq_false_iff]; intro e; have h := hu.1 e; rw [Edi.inB_yes (by omega) (by omega)] at c0; cases c0
    subst hu0; have Htx : Hid _ := c0
    clear hu c0; go_enter Tryz.func22, Tryz.ntmps22; go_wp2_with (first
      | (go_at_call_of 41 (Value.int .i64 tx); refine (within_val _ _ _ false _ Htx.out).mono ?_; rintro e w1 ⟨rfl, rfl⟩))
    go_ret; exact ⟨rfl, bel_al _ _⟩
  | true =>
    have Htx : Hid _ := c0
    have i0 := Edi.inB_iff.1 c0
    clear c0; cases c1 : Edi.inB 1 nb 9007199254740991 with
    | false =>
      have hu0 : u = false := by
        rw [Bool.eq_false_iff]; intro e; have h := hu.1 e; rw [Edi.inB_yes (by omega) (by omega)] at c1; cases c1
      subst hu0; have Hnb : Hid _ := c1
      clear hu c1; go_enter Tryz.func22, Tryz.ntmps22; go_wp2_with (first
        | (go_at_call_of 41 (Value.int .i64 tx); refine (within_val _ _ _ true _ Htx.out).mono ?_; rintro e w1 ⟨rfl, rfl⟩)
        | (go_at_call_of 41 (Value.int .i64 nb); refine (within_val _ _ _ false _ Hnb.out).mono ?_; rintro e w1 ⟨rfl, rfl⟩))
      go_ret; exact ⟨rfl, bel_al _ _⟩
    | true =>
      have Hnb : Hid _ := c1
      have i1 := Edi.inB_iff.1 c1
      clear c1; cases c2 : Edi.inB 1 ng 9007199254740991 with
      | false =>
        have hu0 : u = false := by
          rw [Bool.eq_false_iff]; intro e; have h := hu.1 e; rw [Edi.inB_yes (by omega) (by omega)] at c2; cases c2
        subst hu0; have Hng : Hid _ := c2
        clear hu c2; go_enter Tryz.func22, Tryz.ntmps22; go_wp2_with (first
          | (go_at_call_of 41 (Value.int .i64 tx); refine (within_val _ _ _ true _ Htx.out).mono ?_; rintro e w1 ⟨rfl, rfl⟩)
          | (go_at_call_of 41 (Value.int .i64 nb); refine (within_val _ _ _ true _ Hnb.out).mono ?_; rintro e w1 ⟨rfl, rfl⟩)
          | (go_at_call_of 41 (Value.int .i64 ng); refine (within_val _ _ _ false _ Hng.out).mono ?_; rintro e w1 ⟨rfl, rfl⟩))
        go_ret; exact ⟨rfl, bel_al _ _⟩
      | true =>
        have Hng : Hid _ := c2
        have i2 := Edi.inB_iff.1 c2
        clear c2; cases c3 : Edi.inB 0 now 9007199254740981 with
        | false =>
          have hu0 : u = false := by
            rw [Bool.eq_false_iff]; intro e; have h := hu.1 e; rw [Edi.inB_yes (by omega) (by omega)] at c3; cases c3
          subst hu0; have Hnow : Hid _ := c3
          clear hu c3; go_enter Tryz.func22, Tryz.ntmps22; go_wp2_with (first
            | (go_at_call_of 41 (Value.int .i64 tx); refine (within_val _ _ _ true _ Htx.out).mono ?_; rintro e w1 ⟨rfl, rfl⟩)
            | (go_at_call_of 41 (Value.int .i64 nb); refine (within_val _ _ _ true _ Hnb.out).mono ?_; rintro e w1 ⟨rfl, rfl⟩)
            | (go_at_call_of 41 (Value.int .i64 ng); refine (within_val _ _ _ true _ Hng.out).mono ?_; rintro e w1 ⟨rfl, rfl⟩)
            | (go_at_call_of 41 (Value.int .i64 now); refine (within_val _ _ _ false _ Hnow.out).mono ?_; rintro e w1 ⟨rfl, rfl⟩))
          go_ret; exact ⟨rfl, bel_al _ _⟩
        | true =>
          have Hnow : Hid _ := c3
          have i3 := Edi.inB_iff.1 c3
          clear c3; by_cases hR : Right ns
          · have H4 : Hid (Right ns) := hR
            have HR : Hid (Right ns) := hR
            by_cases hO : overL ns = []
            · have HY : Hid (overL ns = []) := hO
              have HM : Hid (([] : List ByteArray).length = 0) := rfl
              obtain ⟨m, hm⟩ : ∃ m : Nat, m = 0 := ⟨0, rfl⟩
              rw [← hm] at HM
              have hm0 : ((m : Int) == 0) = true := by simp [hm]
              clear hm; by_cases hB : BksOk ⟨tx, nb, ng, now, ns, ls⟩
              · have H6 : Hid (BksOk ⟨tx, nb, ng, now, ns, ls⟩) := hB
                by_cases hL : Lea.Rt ls
                · have H7 : Hid (Lea.Rt ls) := hL
                  by_cases hA : Leased ⟨tx, nb, ng, now, ns, ls⟩
                  · have H8 : Hid (Leased ⟨tx, nb, ng, now, ns, ls⟩) := hA
                    have hu1 : u = true := hu.2 ⟨i0, i1, i2, i3, hR, hO, hB, hL, hA⟩
                    subst hu1; clear hu i0 i1 i2 i3 hR hO hB hL hA; go_enter Tryz.func22, Tryz.ntmps22; go_wp2_with (first
                      | (go_at_call_of 41 (Value.int .i64 tx); refine (within_val _ _ _ true _ Htx.out).mono ?_; rintro e w1 ⟨rfl, rfl⟩)
                      | (go_at_call_of 41 (Value.int .i64 nb); refine (within_val _ _ _ true _ Hnb.out).mono ?_; rintro e w1 ⟨rfl, rfl⟩)
                      | (go_at_call_of 41 (Value.int .i64 ng); refine (within_val _ _ _ true _ Hng.out).mono ?_; rintro e w1 ⟨rfl, rfl⟩)
                      | (go_at_call_of 41 (Value.int .i64 now); refine (within_val _ _ _ true _ Hnow.out).mono ?_; rintro e w1 ⟨rfl, rfl⟩)
                      | (go_at_call 42; refine (CR.out _ true (bel_al _ _) ⟨fun _ => H4.out, fun _ => rfl⟩).mono ?_; rintro e w1 ⟨rfl, c1⟩; have B1 : Hid (Below w.heap.size w w1) := bel_tr (bel_al _ _) c1; have y0 := bel_cell c1 (World.cell?_alloc_new w _ _ 0); have y1 := bel_cell c1 (World.cell?_alloc_new w _ _ 1); have y2 := bel_cell c1 (World.cell?_alloc_new w _ _ 2); have y3 := bel_cell c1 (World.cell?_alloc_new w _ _ 3); have y4 := bel_cell c1 (World.cell?_alloc_new w _ _ 4); have y5 := bel_cell c1 (World.cell?_alloc_new w _ _ 5); clear c1)
                      | (go_at_call 43; refine (CO.out _ _ m B1.out HR.out HY.out HM.out).mono ?_; rintro e w2 ⟨⟨a2, c2, rfl⟩, d2⟩; have B2 : Hid (Below w.heap.size w w2) := bel_tr B1.out d2; have z0 := bel_cell d2 y0; have z1 := bel_cell d2 y1; have z2 := bel_cell d2 y2; have z3 := bel_cell d2 y3; have z4 := bel_cell d2 y4; have z5 := bel_cell d2 y5; clear d2)
                      | (go_at_call 44; refine (CB.out _ true B2.out HR.out ⟨fun _ => H6.out, fun _ => rfl⟩).mono ?_; rintro e w3 ⟨rfl, c3⟩; have B3 : Hid (Below w.heap.size w w3) := bel_tr B2.out c3; have x0 := bel_cell c3 z0; have x1 := bel_cell c3 z1; have x2 := bel_cell c3 z2; have x3 := bel_cell c3 z3; have x4 := bel_cell c3 z4; have x5 := bel_cell c3 z5; clear c3)
                      | (go_at_call 45; refine (CL.out _ true B3.out ⟨fun _ => H7.out, fun _ => rfl⟩).mono ?_; rintro e w4 ⟨rfl, c4⟩; have B4 : Hid (Below w.heap.size w w4) := bel_tr B3.out c4; have v0 := bel_cell c4 x0; have v1 := bel_cell c4 x1; have v2 := bel_cell c4 x2; have v3 := bel_cell c4 x3; have v4 := bel_cell c4 x4; have v5 := bel_cell c4 x5; clear c4)
                      | (go_at_call 46; refine (CA.out _ true B4.out ⟨fun _ => H8.out, fun _ => rfl⟩).mono ?_; rintro e w5 ⟨rfl, c5⟩; have B5 : Hid (Below w.heap.size w w5) := bel_tr B4.out c5; clear c5))
                    go_ret; exact ⟨rfl, B5.out⟩
                  · have hu0 : u = false := by
                      rw [Bool.eq_false_iff]; intro e; have h := hu.1 e; exact hA h.2.2.2.2.2.2.2.2
                    subst hu0; have H8 : Hid (¬ Leased ⟨tx, nb, ng, now, ns, ls⟩) := hA
                    clear hu i0 i1 i2 i3 hR hO hB hL hA; go_enter Tryz.func22, Tryz.ntmps22; go_wp2_with (first
                      | (go_at_call_of 41 (Value.int .i64 tx); refine (within_val _ _ _ true _ Htx.out).mono ?_; rintro e w1 ⟨rfl, rfl⟩)
                      | (go_at_call_of 41 (Value.int .i64 nb); refine (within_val _ _ _ true _ Hnb.out).mono ?_; rintro e w1 ⟨rfl, rfl⟩)
                      | (go_at_call_of 41 (Value.int .i64 ng); refine (within_val _ _ _ true _ Hng.out).mono ?_; rintro e w1 ⟨rfl, rfl⟩)
                      | (go_at_call_of 41 (Value.int .i64 now); refine (within_val _ _ _ true _ Hnow.out).mono ?_; rintro e w1 ⟨rfl, rfl⟩)
                      | (go_at_call 42; refine (CR.out _ true (bel_al _ _) ⟨fun _ => H4.out, fun _ => rfl⟩).mono ?_; rintro e w1 ⟨rfl, c1⟩; have B1 : Hid (Below w.heap.size w w1) := bel_tr (bel_al _ _) c1; have y0 := bel_cell c1 (World.cell?_alloc_new w _ _ 0); have y1 := bel_cell c1 (World.cell?_alloc_new w _ _ 1); have y2 := bel_cell c1 (World.cell?_alloc_new w _ _ 2); have y3 := bel_cell c1 (World.cell?_alloc_new w _ _ 3); have y4 := bel_cell c1 (World.cell?_alloc_new w _ _ 4); have y5 := bel_cell c1 (World.cell?_alloc_new w _ _ 5); clear c1)
                      | (go_at_call 43; refine (CO.out _ _ m B1.out HR.out HY.out HM.out).mono ?_; rintro e w2 ⟨⟨a2, c2, rfl⟩, d2⟩; have B2 : Hid (Below w.heap.size w w2) := bel_tr B1.out d2; have z0 := bel_cell d2 y0; have z1 := bel_cell d2 y1; have z2 := bel_cell d2 y2; have z3 := bel_cell d2 y3; have z4 := bel_cell d2 y4; have z5 := bel_cell d2 y5; clear d2)
                      | (go_at_call 44; refine (CB.out _ true B2.out HR.out ⟨fun _ => H6.out, fun _ => rfl⟩).mono ?_; rintro e w3 ⟨rfl, c3⟩; have B3 : Hid (Below w.heap.size w w3) := bel_tr B2.out c3; have x0 := bel_cell c3 z0; have x1 := bel_cell c3 z1; have x2 := bel_cell c3 z2; have x3 := bel_cell c3 z3; have x4 := bel_cell c3 z4; have x5 := bel_cell c3 z5; clear c3)
                      | (go_at_call 45; refine (CL.out _ true B3.out ⟨fun _ => H7.out, fun _ => rfl⟩).mono ?_; rintro e w4 ⟨rfl, c4⟩; have B4 : Hid (Below w.heap.size w w4) := bel_tr B3.out c4; have v0 := bel_cell c4 x0; have v1 := bel_cell c4 x1; have v2 := bel_cell c4 x2; have v3 := bel_cell c4 x3; have v4 := bel_cell c4 x4; have v5 := bel_cell c4 x5; clear c4)
                      | (go_at_call 46; refine (CA.out _ false B4.out ⟨fun e => (by cases e), fun e => absurd e H8.out⟩).mono ?_; rintro e w5 ⟨rfl, c5⟩; have B5 : Hid (Below w.heap.size w w5) := bel_tr B4.out c5; clear c5))
                    go_ret; exact ⟨rfl, B5.out⟩
                · have hu0 : u = false := by
                    rw [Bool.eq_false_iff]; intro e; have h := hu.1 e; exact hL h.2.2.2.2.2.2.2.1
                  subst hu0; have H7 : Hid (¬ Lea.Rt ls) := hL
                  clear hu i0 i1 i2 i3 hR hO hB hL; go_enter Tryz.func22, Tryz.ntmps22; go_wp2_with (first
                    | (go_at_call_of 41 (Value.int .i64 tx); refine (within_val _ _ _ true _ Htx.out).mono ?_; rintro e w1 ⟨rfl, rfl⟩)
                    | (go_at_call_of 41 (Value.int .i64 nb); refine (within_val _ _ _ true _ Hnb.out).mono ?_; rintro e w1 ⟨rfl, rfl⟩)
                    | (go_at_call_of 41 (Value.int .i64 ng); refine (within_val _ _ _ true _ Hng.out).mono ?_; rintro e w1 ⟨rfl, rfl⟩)
                    | (go_at_call_of 41 (Value.int .i64 now); refine (within_val _ _ _ true _ Hnow.out).mono ?_; rintro e w1 ⟨rfl, rfl⟩)
                    | (go_at_call 42; refine (CR.out _ true (bel_al _ _) ⟨fun _ => H4.out, fun _ => rfl⟩).mono ?_; rintro e w1 ⟨rfl, c1⟩; have B1 : Hid (Below w.heap.size w w1) := bel_tr (bel_al _ _) c1; have y0 := bel_cell c1 (World.cell?_alloc_new w _ _ 0); have y1 := bel_cell c1 (World.cell?_alloc_new w _ _ 1); have y2 := bel_cell c1 (World.cell?_alloc_new w _ _ 2); have y3 := bel_cell c1 (World.cell?_alloc_new w _ _ 3); have y4 := bel_cell c1 (World.cell?_alloc_new w _ _ 4); have y5 := bel_cell c1 (World.cell?_alloc_new w _ _ 5); clear c1)
                    | (go_at_call 43; refine (CO.out _ _ m B1.out HR.out HY.out HM.out).mono ?_; rintro e w2 ⟨⟨a2, c2, rfl⟩, d2⟩; have B2 : Hid (Below w.heap.size w w2) := bel_tr B1.out d2; have z0 := bel_cell d2 y0; have z1 := bel_cell d2 y1; have z2 := bel_cell d2 y2; have z3 := bel_cell d2 y3; have z4 := bel_cell d2 y4; have z5 := bel_cell d2 y5; clear d2)
                    | (go_at_call 44; refine (CB.out _ true B2.out HR.out ⟨fun _ => H6.out, fun _ => rfl⟩).mono ?_; rintro e w3 ⟨rfl, c3⟩; have B3 : Hid (Below w.heap.size w w3) := bel_tr B2.out c3; have x0 := bel_cell c3 z0; have x1 := bel_cell c3 z1; have x2 := bel_cell c3 z2; have x3 := bel_cell c3 z3; have x4 := bel_cell c3 z4; have x5 := bel_cell c3 z5; clear c3)
                    | (go_at_call 45; refine (CL.out _ false B3.out ⟨fun e => (by cases e), fun e => absurd e H7.out⟩).mono ?_; rintro e w4 ⟨rfl, c4⟩; have B4 : Hid (Below w.heap.size w w4) := bel_tr B3.out c4; have v0 := bel_cell c4 x0; have v1 := bel_cell c4 x1; have v2 := bel_cell c4 x2; have v3 := bel_cell c4 x3; have v4 := bel_cell c4 x4; have v5 := bel_cell c4 x5; clear c4))
                  go_ret; exact ⟨rfl, B4.out⟩
              · have hu0 : u = false := by
                  rw [Bool.eq_false_iff]; intro e; have h := hu.1 e; exact hB h.2.2.2.2.2.2.1
                subst hu0; have H6 : Hid (¬ BksOk ⟨tx, nb, ng, now, ns, ls⟩) := hB
                clear hu i0 i1 i2 i3 hR hO hB; go_enter Tryz.func22, Tryz.ntmps22; go_wp2_with (first
                  | (go_at_call_of 41 (Value.int .i64 tx); refine (within_val _ _ _ true _ Htx.out).mono ?_; rintro e w1 ⟨rfl, rfl⟩)
                  | (go_at_call_of 41 (Value.int .i64 nb); refine (within_val _ _ _ true _ Hnb.out).mono ?_; rintro e w1 ⟨rfl, rfl⟩)
                  | (go_at_call_of 41 (Value.int .i64 ng); refine (within_val _ _ _ true _ Hng.out).mono ?_; rintro e w1 ⟨rfl, rfl⟩)
                  | (go_at_call_of 41 (Value.int .i64 now); refine (within_val _ _ _ true _ Hnow.out).mono ?_; rintro e w1 ⟨rfl, rfl⟩)
                  | (go_at_call 42; refine (CR.out _ true (bel_al _ _) ⟨fun _ => H4.out, fun _ => rfl⟩).mono ?_; rintro e w1 ⟨rfl, c1⟩; have B1 : Hid (Below w.heap.size w w1) := bel_tr (bel_al _ _) c1; have y0 := bel_cell c1 (World.cell?_alloc_new w _ _ 0); have y1 := bel_cell c1 (World.cell?_alloc_new w _ _ 1); have y2 := bel_cell c1 (World.cell?_alloc_new w _ _ 2); have y3 := bel_cell c1 (World.cell?_alloc_new w _ _ 3); have y4 := bel_cell c1 (World.cell?_alloc_new w _ _ 4); have y5 := bel_cell c1 (World.cell?_alloc_new w _ _ 5); clear c1)
                  | (go_at_call 43; refine (CO.out _ _ m B1.out HR.out HY.out HM.out).mono ?_; rintro e w2 ⟨⟨a2, c2, rfl⟩, d2⟩; have B2 : Hid (Below w.heap.size w w2) := bel_tr B1.out d2; have z0 := bel_cell d2 y0; have z1 := bel_cell d2 y1; have z2 := bel_cell d2 y2; have z3 := bel_cell d2 y3; have z4 := bel_cell d2 y4; have z5 := bel_cell d2 y5; clear d2)
                  | (go_at_call 44; refine (CB.out _ false B2.out HR.out ⟨fun e => (by cases e), fun e => absurd e H6.out⟩).mono ?_; rintro e w3 ⟨rfl, c3⟩; have B3 : Hid (Below w.heap.size w w3) := bel_tr B2.out c3; have x0 := bel_cell c3 z0; have x1 := bel_cell c3 z1; have x2 := bel_cell c3 z2; have x3 := bel_cell c3 z3; have x4 := bel_cell c3 z4; have x5 := bel_cell c3 z5; clear c3))
                go_ret; exact ⟨rfl, B3.out⟩
            · have hu0 : u = false := by
                rw [Bool.eq_false_iff]; intro e; have h := hu.1 e; exact hO h.2.2.2.2.2.1
              subst hu0; obtain ⟨ys, hy⟩ : ∃ ys, overL ns = ys := ⟨_, rfl⟩
              obtain ⟨m, hm⟩ : ∃ m, ys.length = m := ⟨_, rfl⟩
              have HY : Hid _ := hy
              have HM : Hid _ := hm
              have hm0 : ((m : Int) == 0) = false := by
                rw [beq_eq_false_iff_ne]; intro e; exact hO (by rw [hy]; exact List.length_eq_zero_iff.1 (by omega))
              clear hy hm; clear hu i0 i1 i2 i3 hR hO; go_enter Tryz.func22, Tryz.ntmps22; go_wp2_with (first
                | (go_at_call_of 41 (Value.int .i64 tx); refine (within_val _ _ _ true _ Htx.out).mono ?_; rintro e w1 ⟨rfl, rfl⟩)
                | (go_at_call_of 41 (Value.int .i64 nb); refine (within_val _ _ _ true _ Hnb.out).mono ?_; rintro e w1 ⟨rfl, rfl⟩)
                | (go_at_call_of 41 (Value.int .i64 ng); refine (within_val _ _ _ true _ Hng.out).mono ?_; rintro e w1 ⟨rfl, rfl⟩)
                | (go_at_call_of 41 (Value.int .i64 now); refine (within_val _ _ _ true _ Hnow.out).mono ?_; rintro e w1 ⟨rfl, rfl⟩)
                | (go_at_call 42; refine (CR.out _ true (bel_al _ _) ⟨fun _ => H4.out, fun _ => rfl⟩).mono ?_; rintro e w1 ⟨rfl, c1⟩; have B1 : Hid (Below w.heap.size w w1) := bel_tr (bel_al _ _) c1; have y0 := bel_cell c1 (World.cell?_alloc_new w _ _ 0); have y1 := bel_cell c1 (World.cell?_alloc_new w _ _ 1); have y2 := bel_cell c1 (World.cell?_alloc_new w _ _ 2); have y3 := bel_cell c1 (World.cell?_alloc_new w _ _ 3); have y4 := bel_cell c1 (World.cell?_alloc_new w _ _ 4); have y5 := bel_cell c1 (World.cell?_alloc_new w _ _ 5); clear c1)
                | (go_at_call 43; refine (CO.out _ _ m B1.out HR.out HY.out HM.out).mono ?_; rintro e w2 ⟨⟨a2, c2, rfl⟩, d2⟩; have B2 : Hid (Below w.heap.size w w2) := bel_tr B1.out d2; have z0 := bel_cell d2 y0; have z1 := bel_cell d2 y1; have z2 := bel_cell d2 y2; have z3 := bel_cell d2 y3; have z4 := bel_cell d2 y4; have z5 := bel_cell d2 y5; clear d2))
              go_ret; exact ⟨rfl, B2.out⟩
          · have hu0 : u = false := by
              rw [Bool.eq_false_iff]; intro e; have h := hu.1 e; exact hR h.2.2.2.2.1
            subst hu0; have H4 : Hid (¬ Right ns) := hR
            clear hu i0 i1 i2 i3 hR; go_enter Tryz.func22, Tryz.ntmps22; go_wp2_with (first
              | (go_at_call_of 41 (Value.int .i64 tx); refine (within_val _ _ _ true _ Htx.out).mono ?_; rintro e w1 ⟨rfl, rfl⟩)
              | (go_at_call_of 41 (Value.int .i64 nb); refine (within_val _ _ _ true _ Hnb.out).mono ?_; rintro e w1 ⟨rfl, rfl⟩)
              | (go_at_call_of 41 (Value.int .i64 ng); refine (within_val _ _ _ true _ Hng.out).mono ?_; rintro e w1 ⟨rfl, rfl⟩)
              | (go_at_call_of 41 (Value.int .i64 now); refine (within_val _ _ _ true _ Hnow.out).mono ?_; rintro e w1 ⟨rfl, rfl⟩)
              | (go_at_call 42; refine (CR.out _ false (bel_al _ _) ⟨fun e => (by cases e), fun e => absurd e H4.out⟩).mono ?_; rintro e w1 ⟨rfl, c1⟩; have B1 : Hid (Below w.heap.size w w1) := bel_tr (bel_al _ _) c1; have y0 := bel_cell c1 (World.cell?_alloc_new w _ _ 0); have y1 := bel_cell c1 (World.cell?_alloc_new w _ _ 1); have y2 := bel_cell c1 (World.cell?_alloc_new w _ _ 2); have y3 := bel_cell c1 (World.cell?_alloc_new w _ _ 3); have y4 := bel_cell c1 (World.cell?_alloc_new w _ _ 4); have y5 := bel_cell c1 (World.cell?_alloc_new w _ _ 5); clear c1))
            go_ret; exact ⟨rfl, B1.out⟩
open Go.Proofs.YtcnflkjkgomnoaaGreat.Edi (Ed Nm EdAt edV)
open Go.Proofs.YtcnflkjkgomnoaaGreat.Lea (LS Ls findX putL renX LL LO LsR lsC wideL)
theorem lsRow : ∃ i, Tryz.prog.info? 69 = some i ∧ i.zero = some (.agg #[.int .i64 0, .int .i64 0]) ∧ i.size = 2 ∧ i.bytes = 16 :=
  info_parts3 (show (Tryz.prog.info? 69).map (fun i => (i.zero, i.size, i.bytes)) = some (some (.agg #[.int .i64 0, .int .i64 0]), 2, 16) by kernel_rfl)
end Go.Proofs.YtcnflkjkgomnoaaGreat.Spa
