/- Part 23 of the proof: TreeFA, TreeFB, TreeFC, TreeFD, TreeFE. -/
import Derived.Test.YticiihjkgiookaaGreatB12
import Derived.Test.YticiihjkgiookaaGreatB18
import Derived.Test.YticiihjkgiookaaGreatB22
import Derived.Lib.Bytealg

/- The contract of tree.ordered: a list of nodes of the call's own is sorted. -/
namespace Go.Proofs.YticiihjkgiookaaGreat
open Go.RowKit

set_option maxHeartbeats 1000000 in
set_option maxRecDepth 100000 in
theorem cmpString_val (a b : ByteArray) (w : World) :
    Calls Tryz.prog 180 #[.string a, .string b] w fun e w' => e = .returned (.int .i64 (Lib.compareBytes a.data.toList b.data.toList)) ∧ w' = w := by
  go_enter Tryz.func180, Tryz.ntmps180
  go_wp2
  rw [run_callFunc_extern Tryz.func201 (by kernel_rfl) (by kernel_rfl) (by kernel_rfl) (e := Extern.BytealgCompare.compare) (by kernel_rfl), Lib.run_compareString]
  simp only [Result.andThen]
  rw [Oper.upon_value]
  go_wp2
  go_ret
  exact ⟨rfl, rfl⟩

set_option maxRecDepth 100000 in
theorem compare_val (a b : ByteArray) (w : World) :
    Calls Tryz.prog 156 #[.string a, .string b] w fun e w' => e = .returned (.int .i64 (Lib.compareBytes a.data.toList b.data.toList)) ∧ w' = w := by
  go_enter Tryz.func156, Tryz.ntmps156
  go_wp2_with (refine (cmpString_val a b _).mono ?_; rintro e w1 ⟨rfl, rfl⟩)
  go_ret
  exact ⟨rfl, rfl⟩

def cmpN (x y : NR) : Int := Lib.compareBytes x.1.path.data.toList y.1.path.data.toList

set_option maxRecDepth 100000 in
theorem ordered1_val (x y : NR) (w : World) : Calls Tryz.prog 155 #[ndV x, ndV y] w fun e w' => e = .returned (.int .i64 (cmpN x y)) ∧ ∃ q os', w' = Sort.grow (w.drewN q) os' := by
  obtain ⟨⟨p, d, qu, bs, wr⟩, ⟨a, n, c⟩⟩ := x
  obtain ⟨⟨p2, d2, qu2, bs2, wr2⟩, ⟨a2, n2, c2⟩⟩ := y
  unfold ndV cmpN
  simp only
  obtain ⟨r, hr⟩ : ∃ r, Lib.compareBytes p.data.toList p2.data.toList = r := ⟨_, rfl⟩
  have CC : Hid (∀ W, Calls Tryz.prog 156 #[.string p, .string p2] W fun e w' => e = .returned (.int .i64 r) ∧ w' = W) := fun W => by rw [← hr]; exact compare_val p p2 W
  rw [hr]
  clear hr
  go_enter Tryz.func155, Tryz.ntmps155
  go_wp2_with (refine (CC.out _).mono ?_; rintro e w1 ⟨rfl, rfl⟩)
  go_ret
  exact ⟨rfl, 0, _, by rw [Sort.alloc_eq_grow, Sort.alloc_eq_grow, Sort.grow_grow]; rfl⟩

end Go.Proofs.YticiihjkgiookaaGreat

/- The contract of tree.ordered: a list of nodes of the call's own is sorted. -/
namespace Go.Proofs.YticiihjkgiookaaGreat
open Go.RowKit

theorem ltOf_cmp (x y : NR) : ltOf cmpN x y = ltB x.1.path y.1.path := by
  unfold ltOf cmpN ltB
  rw [cmp_lt, Lib.toList_data, Lib.toList_data]

theorem swoN : Sort.SWO (ltOf cmpN) where
  irrefl x := by rw [ltOf_cmp]; exact ltB_irrefl _
  trans x y z h1 h2 := by rw [ltOf_cmp] at *; exact ltB_trans h1 h2
  ntrans x y z h1 h2 := by rw [ltOf_cmp] at *; exact ltB_ntrans h1 h2

theorem nr_get (ps : List NR) (i : Nat) (hi : i < ps.length) : ps.toArray[i]! = ps[i] := by
  simp [hi]

theorem holds_of_cel {O : Nat → Prop} {w : World} {blk n c : Nat} {ps : List NR} (h : Cel O w 5 (.slice (some ⟨blk, 0, none⟩) n c) n (rowC ndC ps) (some blk)) (hn : ps.length = n) : Sort.HoldsK ndC 5 w blk 0 ps.toArray := by
  obtain ⟨hc1, hc2, _⟩ := h.cap2
  intro t ht
  rw [Sort.size_flatK, List.size_toArray] at ht
  have hd : t / 5 < ps.length := by omega
  have e := rowC_at wideX ps (t / 5) hd (t % 5) (by omega)
  have e2 : t / 5 * 5 + t % 5 = t := by omega
  rw [e2] at e
  have hl : t < (rowC ndC ps).length := by rw [rowC_len wideX]; exact ht
  have hc := h.cell t hl
  refine ⟨?_, ?_⟩
  · rw [Nat.zero_add, hc, Sort.get_flatK _ _ _ _ (by rw [List.size_toArray]; exact ht), nr_get ps _ hd]
    rw [List.getElem?_eq_getElem hl] at e
    have e3 : (ndC ps[t / 5])[t % 5]! = (rowC ndC ps)[t] := by
      rw [List.getElem!_eq_getElem?_getD, ← e]; rfl
    rw [e3]; rfl
  · rw [Nat.zero_add]
    have : n * 5 ≤ c * 5 := Nat.mul_le_mul_right _ hc1
    exact (h.live t (by omega)).2

theorem cel_of_holds {O : Nat → Prop} {w w' : World} {blk n c : Nat} {ps qs : List NR} (h : Cel O w 5 (.slice (some ⟨blk, 0, none⟩) n c) n (rowC ndC ps) (some blk)) (hq : qs.length = n) (hH : Sort.HoldsK ndC 5 w' blk 0 qs.toArray) (hs : w.heap.size ≤ w'.heap.size)
    (hlive : ∀ j, j < c * 5 → (w'.cell? ⟨blk, j, none⟩).isSome = true ∧ w'.frozen? ⟨blk, j, none⟩ = false) : Cel O w' 5 (.slice (some ⟨blk, 0, none⟩) n c) n (rowC ndC qs) (some blk) := by
  obtain ⟨hc1, hc2, _⟩ := h.cap2
  obtain ⟨h3, h2⟩ := h.lt
  refine .row blk c rfl (by rw [rowC_len wideX, hq]) h2 (by omega) hc1 hc2 (fun t ht => ?_) hlive
  rw [rowC_len wideX] at ht
  have hd : t / 5 < qs.length := by omega
  have hc := (hH t (by rw [Sort.size_flatK, List.size_toArray]; exact ht)).1
  rw [Nat.zero_add, Sort.get_flatK _ _ _ _ (by rw [List.size_toArray]; exact ht), nr_get qs _ hd] at hc
  rw [hc]
  have e := rowC_at wideX qs (t / 5) hd (t % 5) (by omega)
  have e2 : t / 5 * 5 + t % 5 = t := by omega
  rw [e2] at e
  have hl : t < (rowC ndC qs).length := by rw [rowC_len wideX]; exact ht
  rw [List.getElem?_eq_getElem hl] at e
  have e3 : (ndC qs[t / 5])[t % 5]! = (rowC ndC qs)[t] := by
    rw [List.getElem!_eq_getElem?_getD, ← e]; rfl
  rw [e3]; rfl

theorem sorted_stay (w : World) (blk m : Nat) (d : Array NR) (os : Array Obj) : Stay (fun k => some blk = some k) w (sortWorldK ndC 5 w blk 0 m d os) := by
  refine ⟨rfl, rfl, rfl, size_sortWorldK_c ndC 5 w blk 0 m d os, fun k hk hne => ?_⟩
  unfold sortWorldK
  have hb : k ≠ blk := fun e => hne (by rw [e])
  have h1 : k < (Sort.putRowK ndC 5 (Sort.ahead w m) blk 0 d).heap.size := by rw [Sort.size_putRowK]; exact hk
  rw [Sort.heap_grow_old _ _ h1]
  unfold Sort.putRowK Sort.putRow Sort.mapBlock
  simp only [Array.getElem?_modify]
  rw [if_neg (fun e => hb e.symm)]
  rfl

theorem sorted_live (w : World) (blk m j : Nat) (d0 d : Array NR) (os : Array Obj) (hblk : blk < w.heap.size) (hH : Sort.HoldsK ndC 5 w blk 0 d0) (hs : d.size = d0.size) (h : (w.cell? ⟨blk, j, none⟩).isSome = true ∧ w.frozen? ⟨blk, j, none⟩ = false) :
    ((sortWorldK ndC 5 w blk 0 m d os).cell? ⟨blk, j, none⟩).isSome = true ∧ (sortWorldK ndC 5 w blk 0 m d os).frozen? ⟨blk, j, none⟩ = false := by
  have h1 : blk < (Sort.putRowK ndC 5 (Sort.ahead w m) blk 0 d).heap.size := by rw [Sort.size_putRowK]; exact hblk
  constructor
  · by_cases hj : j < d.size * 5
    · have := (holdsK_sortWorldK_c ndC 5 w blk 0 d0 d m os hH hblk hs j (by rw [Sort.size_flatK]; exact hj)).1
      rw [Nat.zero_add] at this
      rw [this]; rfl
    · unfold sortWorldK
      rw [Sort.cell?_grow _ _ _ h1]
      unfold Sort.putRowK
      rw [Sort.cell?_putRow_other _ _ _ _ _ _ (.inr (.inr (by rw [Sort.size_flatK]; show 0 + d.size * 5 ≤ j; omega)))]
      exact h.1
  · unfold sortWorldK
    rw [Sort.frozen?_grow _ _ _ h1]
    unfold Sort.putRowK
    rw [Sort.frozen?_putRow]
    exact h.2

theorem perm_of_in {d d' : Array NR} (h : Sort.PermIn 0 d.size d d') : d'.toList.Perm d.toList := by
  obtain ⟨h1, _, h3⟩ := h
  have e1 : d'.extract 0 d.size = d' := by rw [← h1]; simp
  have e2 : d.extract 0 d.size = d := by simp
  rw [e1, e2] at h3
  exact h3

theorem sorted_of_in {d' : Array NR} {n : Nat} (hn : d'.size = n) (h : Sort.SortedIn (ltOf cmpN) 0 n d') : (d'.toList.map (·.1)).Pairwise (fun x y => ltB y.path x.path = false) := by
  rw [List.pairwise_iff_getElem]
  intro i j hi hj hij
  rw [List.length_map, Array.length_toList] at hi hj
  have := h i j (Nat.zero_le _) hij (by omega)
  rw [ltOf_cmp] at this
  have e1 : d'[i]! = d'[i] := by simp [hi]
  have e2 : d'[j]! = d'[j] := by simp [hj]
  rw [e1, e2] at this
  simpa using this

set_option maxRecDepth 100000 in
set_option maxHeartbeats 1000000 in
theorem ordered_val {base n c : Nat} {a : Option Addr} {xs : NS} {w : World} (h : LX base w a n c xs) (hp : 0 < n) (hn : n ≤ 1000) (ha : Apart xs) :
    Calls Tryz.prog 126 #[.slice a n c] w fun e w' => e = .returned (.slice a n c) ∧ LX base w' a n c (sortN xs) ∧ Stay (fun k => base ≤ k) w w' := by
  obtain ⟨ps, g, h1, h2⟩ := h.ex
  obtain ⟨blk, rfl, rfl⟩ := h2.cel.at2 hp
  have hlen := h2.len
  have hlt := h2.cel.lt.1
  have hsA : ps.toArray.size = n := by simp [hlen]
  have hH := holds_of_cel h2.cel hlen
  have eg : ∀ args w, (callFunc 155 args).run Tryz.prog w = .ok (.enter 155 args) w := enters_of Tryz.func155 (by kernel_rfl) rfl
  have hcmp : CmpLays Tryz.prog 155 #[] ndC 5 cmpN blk 0 ps.toArray.size w := fun _ _ _ _ x y => ordered1_val x y _
  have hcon := AnyQ.slices_SortFunc sortNd 5 Tryz.isAgg35 Tryz.sizeOf35 ndC (fun _ => rfl) (fun x v hv => wideX.one x v hv) cmpN swoN 155 #[] blk 0 c ps.toArray w eg hcmp hH hlt (by rw [List.size_toArray]; omega)
  rw [List.size_toArray, hlen] at hcon
  change Calls Tryz.prog 154 _ _ _ at hcon
  have CC : Hid (Calls Tryz.prog 154 #[.slice (some ⟨blk, 0, none⟩) n c, .func (.func 155) #[] #[]] w fun e w' => e = .returned (.tuple #[]) ∧ LX base w' (some ⟨blk, 0, none⟩) n c (sortN xs) ∧ Stay (fun k => base ≤ k) w w') := hcon.mono fun e w' ⟨he, d', m, os, hP, hS, hw⟩ => by
    have hsz : d'.size = n := by
      have := hP.1; omega
    have hperm : d'.toList.Perm ps := perm_of_in (by rw [List.size_toArray, hlen]; exact hP)
    have hst : Stay (fun k => some blk = some k) w w' := by rw [hw]; exact sorted_stay w blk m d' os
    have hdl : d'.toList.length = n := by rw [Array.length_toList]; exact hsz
    have hH' : Sort.HoldsK ndC 5 w' blk 0 d'.toList.toArray := by
      rw [hw]
      exact holdsK_sortWorldK_c ndC 5 w blk 0 ps.toArray d'.toList.toArray m os hH hlt (by rw [List.size_toArray, List.size_toArray]; omega)
    have hcel := cel_of_holds h2.cel hdl hH' hst.size (fun j hj => by
      rw [hw]
      exact sorted_live w blk m j ps.toArray d' os hlt hH (by omega) (h2.cel.live j hj))
    refine ⟨he, ⟨d'.toList, some blk, ?_, hcel, hdl, fun x hx => ?_, fun x hx => h2.ap x (hperm.subset hx)⟩, hst.mono (fun k hk => by cases hk; exact h2.cel.lt.2)⟩
    · have hpm : (d'.toList.map (·.1)).Perm xs := by rw [← h1]; exact hperm.map _
      exact sortN_is hpm (asc_of (sorted_of_in hsz hS) (ha.perm hpm.symm))
    · exact Stay.free (h2.ok x (hperm.subset hx)) hst (fun k hk e => by
        exact h2.ap x (hperm.subset hx) k e hk)
  clear hcon hcmp hH h h2 eg
  go_enter Tryz.func126, Tryz.ntmps126
  go_wp2_with (refine CC.out.mono ?_; rintro e w1 ⟨rfl, hX⟩; have HX : Hid _ := hX; clear hX)
  go_ret
  exact ⟨rfl, HX.out⟩

end Go.Proofs.YticiihjkgiookaaGreat

/- The contracts of tree.refuseAdd, Add. -/
namespace Go.Proofs.YticiihjkgiookaaGreat
open Go.RowKit

set_option maxRecDepth 100000 in
set_option maxHeartbeats 1000000 in
theorem refuseAdd_val {a : Option Addr} {n c : Nat} {xs : NS} {w : World} (h : NL w a n xs) (x : NR) (hx : NdOk w x) (E : Int) (hE : AddE xs x.1 E) :
    Calls Tryz.prog 124 #[.slice a n c, ndV x] w fun e w' => e = .returned (.int .i64 E) ∧ Below w.heap.size w w' := by
  have CR : Hid (∀ W u, Below w.heap.size w W → (u = true ↔ Right xs) → Calls Tryz.prog 33 #[.slice a n c] W fun e w' => e = .returned (.bool u) ∧ Below W.heap.size W w') := fun W u hb hu => right_val (h.below hb) u hu
  have CT : Hid (∀ W u, Below w.heap.size w W → fitsB x.1 = u → Calls Tryz.prog 75 #[ndV x] W fun e w' => e = .returned (.bool u) ∧ Below W.heap.size W w') := fun W u hb hu => fits_val x u W (hx.below hb) hu
  have CF : Hid (∀ W I, Below w.heap.size w W → findI xs x.1.path = I → Calls Tryz.prog 73 #[.slice a n c, .string x.1.path] W fun e w' => e = .returned (.int .i64 I) ∧ Below W.heap.size W w') := fun W I hb hI => find_val (h.below hb) x.1.path I hI
  have CP : Hid (∀ W F, Below w.heap.size w W → dirE xs (parD x.1.path) = F → Calls Tryz.prog 76 #[.slice a n c, .string x.1.path] W fun e w' => e = .returned (.int .i64 F) ∧ Below W.heap.size W w') := fun W F hb hF => refuseParent_val (h.below hb) x.1.path hx.small F hF
  have HLEN : Hid (xs.length = n) := by obtain ⟨_, _, _, _, k2, _⟩ := h.ex; exact k2
  have hlid := h.lid
  unfold maxLen at hlid
  obtain ⟨⟨p, d, q, bs, wr⟩, ⟨sa, sn, sc⟩⟩ := x
  have e0 := root_eq p
  have hst := run_store_str
  unfold ndV at *
  simp only at CF CP CT
  clear h hx
  cases hE with
  | arg hn =>
    by_cases h1 : Right xs
    · have H1 : Hid (true = true ↔ Right xs) := ⟨fun _ => h1, fun _ => rfl⟩
      cases h2 : fitsB ⟨p, d, q, bs, wr⟩ with
      | false =>
        have H2 : Hid _ := h2
        clear h1 h2 hn e0
        go_enter Tryz.func124, Tryz.ntmps124
        go_wp2_with (first
          | (go_at_call 33; refine (CR.out _ true (bel_al _ _) H1.out).mono ?_; rintro e w1 ⟨rfl, c1⟩; have cc : Hid _ := bel_tr (bel_al _ _) c1; have y0 := bel_cell c1 (World.cell?_alloc_new w _ _ 0); have y1 := bel_cell c1 (World.cell?_alloc_new w _ _ 1); have y2 := bel_cell c1 (World.cell?_alloc_new w _ _ 2); have y3 := bel_cell c1 (World.cell?_alloc_new w _ _ 3); have y4 := bel_cell c1 (World.cell?_alloc_new w _ _ 4); clear c1)
          | (go_at_call 75; refine (CT.out _ false cc.out H2.out).mono ?_; rintro e w2 ⟨rfl, c2⟩; have cc2 : Hid _ := bel_tr cc.out c2; have z0 := bel_cell c2 y0; have z1 := bel_cell c2 y1; have z2 := bel_cell c2 y2; have z3 := bel_cell c2 y3; have z4 := bel_cell c2 y4; clear c2))
        go_ret
        exact ⟨rfl, cc2.out⟩
      | true =>
        have H2 : Hid _ := h2
        have h3 : p = rootP := by
          by_cases h3 : p = rootP
          · exact h3
          · exact absurd ⟨h1, h2, h3⟩ hn
        rw [decide_eq_true h3] at e0
        clear h1 h2 h3 hn
        go_enter Tryz.func124, Tryz.ntmps124
        go_wp2_with (first
          | (go_at_call 33; refine (CR.out _ true (bel_al _ _) H1.out).mono ?_; rintro e w1 ⟨rfl, c1⟩; have cc : Hid _ := bel_tr (bel_al _ _) c1; have y0 := bel_cell c1 (World.cell?_alloc_new w _ _ 0); have y1 := bel_cell c1 (World.cell?_alloc_new w _ _ 1); have y2 := bel_cell c1 (World.cell?_alloc_new w _ _ 2); have y3 := bel_cell c1 (World.cell?_alloc_new w _ _ 3); have y4 := bel_cell c1 (World.cell?_alloc_new w _ _ 4); clear c1)
          | (go_at_call 75; refine (CT.out _ true cc.out H2.out).mono ?_; rintro e w2 ⟨rfl, c2⟩; have cc2 : Hid _ := bel_tr cc.out c2; have z0 := bel_cell c2 y0; have z1 := bel_cell c2 y1; have z2 := bel_cell c2 y2; have z3 := bel_cell c2 y3; have z4 := bel_cell c2 y4; clear c2))
        go_ret
        exact ⟨rfl, cc2.out⟩
    · have H1 : Hid (false = true ↔ Right xs) := ⟨fun e => (by cases e), fun e => absurd e h1⟩
      clear h1 hn e0
      go_enter Tryz.func124, Tryz.ntmps124
      go_wp2_with (first
        | (go_at_call 33; refine (CR.out _ false (bel_al _ _) H1.out).mono ?_; rintro e w1 ⟨rfl, c1⟩; have cc : Hid _ := bel_tr (bel_al _ _) c1; have y0 := bel_cell c1 (World.cell?_alloc_new w _ _ 0); have y1 := bel_cell c1 (World.cell?_alloc_new w _ _ 1); have y2 := bel_cell c1 (World.cell?_alloc_new w _ _ 2); have y3 := bel_cell c1 (World.cell?_alloc_new w _ _ 3); have y4 := bel_cell c1 (World.cell?_alloc_new w _ _ 4); clear c1))
      go_ret
      exact ⟨rfl, cc.out⟩
  | exist h1 h2 h3 h4 =>
    have H1 : Hid (true = true ↔ Right xs) := ⟨fun _ => h1, fun _ => rfl⟩
    have H2 : Hid _ := h2
    obtain ⟨i, h5, h6⟩ := find_pos h4
    have H4 : Hid (findI xs p = (i : Int)) := h5
    have h3' : p ≠ rootP := h3
    rw [decide_eq_false h3'] at e0
    clear h1 h2 h3 h4 h5 h6 h3'
    go_enter Tryz.func124, Tryz.ntmps124
    go_wp2_with (first
      | (go_at_call 33; refine (CR.out _ true (bel_al _ _) H1.out).mono ?_; rintro e w1 ⟨rfl, c1⟩; have cc : Hid _ := bel_tr (bel_al _ _) c1; have y0 := bel_cell c1 (World.cell?_alloc_new w _ _ 0); have y1 := bel_cell c1 (World.cell?_alloc_new w _ _ 1); have y2 := bel_cell c1 (World.cell?_alloc_new w _ _ 2); have y3 := bel_cell c1 (World.cell?_alloc_new w _ _ 3); have y4 := bel_cell c1 (World.cell?_alloc_new w _ _ 4); clear c1)
      | (go_at_call 75; refine (CT.out _ true cc.out H2.out).mono ?_; rintro e w2 ⟨rfl, c2⟩; have cc2 : Hid _ := bel_tr cc.out c2; have z0 := bel_cell c2 y0; have z1 := bel_cell c2 y1; have z2 := bel_cell c2 y2; have z3 := bel_cell c2 y3; have z4 := bel_cell c2 y4; clear c2)
      | (go_at_call 73; refine (CF.out _ _ cc2.out H4.out).mono ?_; rintro e w3 ⟨rfl, c3⟩; have cc3 : Hid _ := bel_tr cc2.out c3; have v0 := bel_cell c3 z0; have v1 := bel_cell c3 z1; have v2 := bel_cell c3 z2; have v3 := bel_cell c3 z3; have v4 := bel_cell c3 z4; clear c3))
    go_ret
    exact ⟨rfl, cc3.out⟩
  | par e h1 h2 h3 h4 h5 h6 =>
    have H1 : Hid (true = true ↔ Right xs) := ⟨fun _ => h1, fun _ => rfl⟩
    have H2 : Hid _ := h2
    have H4 : Hid (findI xs p = -1) := find_neg h4
    have H5 : Hid (dirE xs (parD p) = E) := h5
    have h6b : (E != 0) = true := by simpa using h6
    have h3' : p ≠ rootP := h3
    rw [decide_eq_false h3'] at e0
    clear h1 h2 h3 h4 h5 h6 h3'
    go_enter Tryz.func124, Tryz.ntmps124
    go_wp2_with (first
      | (go_at_call 33; refine (CR.out _ true (bel_al _ _) H1.out).mono ?_; rintro e w1 ⟨rfl, c1⟩; have cc : Hid _ := bel_tr (bel_al _ _) c1; have y0 := bel_cell c1 (World.cell?_alloc_new w _ _ 0); have y1 := bel_cell c1 (World.cell?_alloc_new w _ _ 1); have y2 := bel_cell c1 (World.cell?_alloc_new w _ _ 2); have y3 := bel_cell c1 (World.cell?_alloc_new w _ _ 3); have y4 := bel_cell c1 (World.cell?_alloc_new w _ _ 4); clear c1)
      | (go_at_call 75; refine (CT.out _ true cc.out H2.out).mono ?_; rintro e w2 ⟨rfl, c2⟩; have cc2 : Hid _ := bel_tr cc.out c2; have z0 := bel_cell c2 y0; have z1 := bel_cell c2 y1; have z2 := bel_cell c2 y2; have z3 := bel_cell c2 y3; have z4 := bel_cell c2 y4; clear c2)
      | (go_at_call 73; refine (CF.out _ _ cc2.out H4.out).mono ?_; rintro e w3 ⟨rfl, c3⟩; have cc3 : Hid _ := bel_tr cc2.out c3; have v0 := bel_cell c3 z0; have v1 := bel_cell c3 z1; have v2 := bel_cell c3 z2; have v3 := bel_cell c3 z3; have v4 := bel_cell c3 z4; clear c3)
      | (go_at_call 76; refine (CP.out _ _ cc3.out H5.out).mono ?_; rintro e w4 ⟨rfl, c4⟩; have cc4 : Hid _ := bel_tr cc3.out c4; clear c4))
    go_ret
    exact ⟨rfl, cc4.out⟩
  | long h1 h2 h3 h4 h5 h6 =>
    have H1 : Hid (true = true ↔ Right xs) := ⟨fun _ => h1, fun _ => rfl⟩
    have H2 : Hid _ := h2
    have H4 : Hid (findI xs p = -1) := find_neg h4
    have H5 : Hid (dirE xs (parD p) = 0) := h5
    have h6b : decide ((60 : Int) ≤ (n : Int)) = true := decide_eq_true (by rw [HLEN.out] at h6; omega)
    have h3' : p ≠ rootP := h3
    rw [decide_eq_false h3'] at e0
    clear h1 h2 h3 h4 h5 h6 h3'
    go_enter Tryz.func124, Tryz.ntmps124
    go_wp2_with (first
      | (go_at_call 33; refine (CR.out _ true (bel_al _ _) H1.out).mono ?_; rintro e w1 ⟨rfl, c1⟩; have cc : Hid _ := bel_tr (bel_al _ _) c1; have y0 := bel_cell c1 (World.cell?_alloc_new w _ _ 0); have y1 := bel_cell c1 (World.cell?_alloc_new w _ _ 1); have y2 := bel_cell c1 (World.cell?_alloc_new w _ _ 2); have y3 := bel_cell c1 (World.cell?_alloc_new w _ _ 3); have y4 := bel_cell c1 (World.cell?_alloc_new w _ _ 4); clear c1)
      | (go_at_call 75; refine (CT.out _ true cc.out H2.out).mono ?_; rintro e w2 ⟨rfl, c2⟩; have cc2 : Hid _ := bel_tr cc.out c2; have z0 := bel_cell c2 y0; have z1 := bel_cell c2 y1; have z2 := bel_cell c2 y2; have z3 := bel_cell c2 y3; have z4 := bel_cell c2 y4; clear c2)
      | (go_at_call 73; refine (CF.out _ _ cc2.out H4.out).mono ?_; rintro e w3 ⟨rfl, c3⟩; have cc3 : Hid _ := bel_tr cc2.out c3; have v0 := bel_cell c3 z0; have v1 := bel_cell c3 z1; have v2 := bel_cell c3 z2; have v3 := bel_cell c3 z3; have v4 := bel_cell c3 z4; clear c3)
      | (go_at_call 76; refine (CP.out _ _ cc3.out H5.out).mono ?_; rintro e w4 ⟨rfl, c4⟩; have cc4 : Hid _ := bel_tr cc3.out c4; clear c4))
    go_ret
    exact ⟨rfl, cc4.out⟩
  | ok h1 h2 h3 h4 h5 h6 =>
    have H1 : Hid (true = true ↔ Right xs) := ⟨fun _ => h1, fun _ => rfl⟩
    have H2 : Hid _ := h2
    have H4 : Hid (findI xs p = -1) := find_neg h4
    have H5 : Hid (dirE xs (parD p) = 0) := h5
    have h6b : decide ((60 : Int) ≤ (n : Int)) = false := decide_eq_false (by rw [HLEN.out] at h6; omega)
    have h3' : p ≠ rootP := h3
    rw [decide_eq_false h3'] at e0
    clear h1 h2 h3 h4 h5 h6 h3'
    go_enter Tryz.func124, Tryz.ntmps124
    go_wp2_with (first
      | (go_at_call 33; refine (CR.out _ true (bel_al _ _) H1.out).mono ?_; rintro e w1 ⟨rfl, c1⟩; have cc : Hid _ := bel_tr (bel_al _ _) c1; have y0 := bel_cell c1 (World.cell?_alloc_new w _ _ 0); have y1 := bel_cell c1 (World.cell?_alloc_new w _ _ 1); have y2 := bel_cell c1 (World.cell?_alloc_new w _ _ 2); have y3 := bel_cell c1 (World.cell?_alloc_new w _ _ 3); have y4 := bel_cell c1 (World.cell?_alloc_new w _ _ 4); clear c1)
      | (go_at_call 75; refine (CT.out _ true cc.out H2.out).mono ?_; rintro e w2 ⟨rfl, c2⟩; have cc2 : Hid _ := bel_tr cc.out c2; have z0 := bel_cell c2 y0; have z1 := bel_cell c2 y1; have z2 := bel_cell c2 y2; have z3 := bel_cell c2 y3; have z4 := bel_cell c2 y4; clear c2)
      | (go_at_call 73; refine (CF.out _ _ cc2.out H4.out).mono ?_; rintro e w3 ⟨rfl, c3⟩; have cc3 : Hid _ := bel_tr cc2.out c3; have v0 := bel_cell c3 z0; have v1 := bel_cell c3 z1; have v2 := bel_cell c3 z2; have v3 := bel_cell c3 z3; have v4 := bel_cell c3 z4; clear c3)
      | (go_at_call 76; refine (CP.out _ _ cc3.out H5.out).mono ?_; rintro e w4 ⟨rfl, c4⟩; have cc4 : Hid _ := bel_tr cc3.out c4; clear c4))
    go_ret
    exact ⟨rfl, cc4.out⟩

/-- A copy is appended to a list of the call's own. -/
theorem Lot.push {base : Nat} {w2 w3 w5 : World} {fa : Option Addr} {fn fc : Nat} {qs : List NR} {g : Option Nat} (hL : Lot base w2 fa fn fc qs g) (hB : base ≤ w2.heap.size) {x : Nd} {s : RS} (hF : Free w2.heap.size w3 (x, s)) (B2 : Below w2.heap.size w2 w3) {o : Obj} {a2 : Option Addr} {c2 : Nat} {g5 : Option Nat}
    (hC : Cel (Grow (fun k => base ≤ k) (w3.alloc o) w5) w5 5 (.slice a2 (fn + 1) c2) (fn + 1) (rowC ndC qs ++ rowC ndC [(x, s)]) g5) (hS : Stay (fun k => g = some k) (w3.alloc o) w5) (hg : ∀ k, g5 = some k → g = some k ∨ (w3.alloc o).heap.size ≤ k) : Lot base w5 a2 (fn + 1) c2 (qs ++ [(x, s)]) g5 ∧ Below base w2 w5 := by
  have B3 : Below w2.heap.size w2 (w3.alloc o) := bel_tr B2 (bel_al _ _)
  have z2 := B3.size
  have hge : ∀ k, g = some k → k < w2.heap.size ∧ base ≤ k := fun k hk => by have := hL.cel; rw [hk] at this; exact this.lt
  have hF2 := hF.below (bel_al w3 o)
  refine ⟨(hL.below B3).app (qs := [(x, s)]) (fun y hy => ?_) (fun y hy k hk e => ?_) rfl hC hS hg (by omega), ?_⟩
  · rw [List.mem_singleton.1 hy]; exact hF2.mono hB
  · rw [List.mem_singleton.1 hy] at e
    have := hF2.blk_ge k e
    have := (hge k hk).1
    omega
  · exact (B3.mono hB).trans (hS.below (by omega) (fun k hk => (hge k hk).2))

theorem apart_snoc {xs : NS} {x : Nd} (h : Apart xs) (hx : at? xs x.path = none) : Apart (xs ++ [x]) := by
  unfold Apart
  rw [List.pairwise_append]
  refine ⟨h, List.pairwise_singleton _ _, fun y hy z hz => ?_⟩
  rw [List.mem_singleton.1 hz]
  exact at_none hx y hy

def addL (xs : NS) (x : Nd) (E : Int) : NS := if E = 0 then sortN (xs ++ [x]) else []

set_option maxRecDepth 100000 in
set_option maxHeartbeats 2000000 in
theorem add_val {a : Option Addr} {n c : Nat} {xs : NS} {w : World} (h : NL w a n xs) (x : NR) (hx : NdOk w x) (E : Int) (hE : AddE xs x.1 E) :
    Calls Tryz.prog 83 #[.slice a n c, ndV x] w fun e w' => TwoR w.heap.size (addL xs x.1 E) E e w' ∧ Below w.heap.size w w' := by
  have CA : Hid (∀ W, Below w.heap.size w W → Calls Tryz.prog 124 #[.slice a n c, ndV x] W fun e w' => e = .returned (.int .i64 E) ∧ Below W.heap.size W w') := fun W hb => refuseAdd_val (h.below hb) x (hx.below hb) E hE
  have HLEN : Hid (xs.length = n) := by obtain ⟨_, _, _, _, k2, _⟩ := h.ex; exact k2
  have hst := run_store_str
  by_cases h0 : E = 0
  · subst h0
    have hr : addL xs x.1 0 = sortN (xs ++ [x.1]) := rfl
    rw [hr]
    obtain ⟨ti, hi1, hi2, hi3, hi4⟩ := ndRow
    cases hE with
    | par e h1 h2 h3 h4 h5 h6 => exact absurd rfl h6
    | ok h1 h2 h3 h4 h5 h6 =>
      have hn60 : n < 60 := by rw [HLEN.out] at h6; exact h6
      have HAP : Hid (Apart (xs ++ [x.1])) := apart_snoc (right_asc h1).apart h4
      have CC : Hid (∀ W, Below w.heap.size w W → Calls Tryz.prog 89 #[.slice a n c, .func (.func 125) #[] #[]] W fun e w' => ListR W.heap.size xs n e w' ∧ Below W.heap.size W w') := fun W hb =>
        chosen_val (h.below hb) (by omega) h1.few8 125 #[] (fun _ => true) (enters_of Tryz.func125 (by kernel_rfl) rfl) (fun W2 y hb2 hy => by simpa using add1_val W2 y) xs (List.filter_eq_self.2 (fun _ _ => rfl)) n HLEN.out
      have h8 : x.2.n ≤ 8 := by rw [← hx.bs.len]; exact fits_few h2
      have CY : Hid (∀ W, Below w.heap.size w W → Calls Tryz.prog 127 #[ndV x] W fun e w' => CopyR W.heap.size x.1 e w' ∧ Below W.heap.size W w') := fun W hb => copied_val x W (hx.below hb) (by omega)
      obtain ⟨⟨p, d, q, bs, wr⟩, ⟨sa, sn, sc⟩⟩ := x
      unfold ndV at *
      simp only at CA CY HAP ⊢
      clear h hx h1 h2 h3 h4 h5 h6 h8 hr
      go_enter Tryz.func83, Tryz.ntmps83
      go_wp2_with (first
        | (go_at_call 124; refine (CA.out _ (bel_al _ _)).mono ?_; rintro e w1 ⟨rfl, c1⟩; have cc : Hid _ := bel_tr (bel_al _ _) c1; have y0 := bel_cell c1 (World.cell?_alloc_new w _ _ 0); have y1 := bel_cell c1 (World.cell?_alloc_new w _ _ 1); have y2 := bel_cell c1 (World.cell?_alloc_new w _ _ 2); have y3 := bel_cell c1 (World.cell?_alloc_new w _ _ 3); have y4 := bel_cell c1 (World.cell?_alloc_new w _ _ 4); clear c1)
        | (go_at_call 89; refine (CC.out _ cc.out).mono ?_; rintro e w2 ⟨⟨a2, c2, rfl, ⟨qs, g, hq, hL⟩⟩, d2⟩; have cc2 : Hid _ := bel_tr cc.out d2; have HQ : Hid _ := hq; have HL : Hid (Lot w1.heap.size w2 a2 n c2 qs g) := hL; have HB2 : Hid _ := d2; have z0 := bel_cell d2 y0; have z1 := bel_cell d2 y1; have z2 := bel_cell d2 y2; have z3 := bel_cell d2 y3; have z4 := bel_cell d2 y4; clear d2 hq hL)
        | (go_at_call 127; refine (CY.out _ cc2.out).mono ?_; rintro e w3 ⟨⟨s, rfl, hF⟩, c3⟩; have HF : Hid (Free w2.heap.size w3 (⟨p, d, q, bs, wr⟩, s)) := hF; have B3 : Hid (Below w2.heap.size w2 w3) := c3; clear hF c3; unfold ndV; simp only)
        | (at_builtin; refine wpList_append_cel _ rfl _ _ 24 24 rfl 35 ti _ 5 64 Tryz.underlying24 hi1 hi2 hi3 hi4 rfl (O := fun k => w1.heap.size ≤ k) _ n _ g rfl ((HL.out.below (bel_tr B3.out (bel_al _ _))).cel) _ 1 (rowC ndC [(⟨p, d, q, bs, wr⟩, s)]) rfl (src_new5 w3 (⟨p, d, q, bs, wr⟩, s)) (by unfold maxLen; omega) (by omega) ?_; intro a5 c5 w5 g5 hC5 hS5 hf5; have HX : Hid (LX w1.heap.size w5 a5 (n + 1) c5 (xs ++ [⟨p, d, q, bs, wr⟩]) ∧ Below w1.heap.size w2 w5) := ⟨⟨qs ++ [(⟨p, d, q, bs, wr⟩, s)], g5, by rw [List.map_append, HQ.out]; rfl, (HL.out.push HB2.out.size HF.out B3.out hC5 hS5 hf5).1⟩, (HL.out.push HB2.out.size HF.out B3.out hC5 hS5 hf5).2⟩; clear hC5 hS5 hf5)
        | (go_at_call 126; refine (ordered_val HX.out.1 (by omega) (by omega) HAP.out).mono ?_; rintro e w6 ⟨rfl, hX6, hS6⟩; have HX6 : Hid (LX w1.heap.size w6 a5 (n + 1) c5 (sortN (xs ++ [⟨p, d, q, bs, wr⟩]))) := hX6; have HS6 : Hid (Stay (fun k => w1.heap.size ≤ k) w5 w6) := hS6; clear hX6 hS6))
      go_ret2
      have z1 := cc.out.size
      refine ⟨⟨a5, n + 1, c5, rfl, HX6.out.mono z1⟩, ?_⟩
      have z5 := HX.out.2.size
      have z2 := HB2.out.size
      exact (cc2.out.trans (HX.out.2.mono z1)).trans (HS6.out.below (by omega) (fun k hk => Nat.le_trans z1 hk))
  · have hr : addL xs x.1 E = [] := if_neg h0
    rw [hr]
    have h0b : (E != 0) = true := by simpa using h0
    obtain ⟨⟨p, d, q, bs, wr⟩, ⟨sa, sn, sc⟩⟩ := x
    unfold ndV at *
    clear h hx hE h0 hr
    go_enter Tryz.func83, Tryz.ntmps83
    go_wp2_with (go_at_call 124; refine (CA.out _ (bel_al _ _)).mono ?_; rintro e w1 ⟨rfl, c1⟩; have cc : Hid _ := bel_tr (bel_al _ _) c1; clear c1)
    go_ret2
    exact ⟨TwoR.no _ _ rfl, cc.out⟩

end Go.Proofs.YticiihjkgiookaaGreat

/- The contract of tree.refuseMove. -/
namespace Go.Proofs.YticiihjkgiookaaGreat
open Go.RowKit

/-- What refuseMove tells: all but that a path would get too long. -/
inductive RefM (xs : NS) (f t : ByteArray) : Int → Prop
  | arg : ¬ (Right xs ∧ pathB f = true ∧ f ≠ rootP ∧ pathB t = true ∧ t ≠ rootP ∧ underB f t = false) → RefM xs f t 1
  | none : Right xs → pathB f = true → f ≠ rootP → pathB t = true → t ≠ rootP → underB f t = false → at? xs f = none → RefM xs f t 5
  | par (e : Int) : Right xs → pathB f = true → f ≠ rootP → pathB t = true → t ≠ rootP → underB f t = false → at? xs f ≠ none → dirE xs (parD t) = e → e ≠ 0 → RefM xs f t e
  | exist : Right xs → pathB f = true → f ≠ rootP → pathB t = true → t ≠ rootP → underB f t = false → at? xs f ≠ none → dirE xs (parD t) = 0 → at? xs t ≠ none → (isDir xs f || isDir xs t) = true → RefM xs f t 6
  | ok : Right xs → pathB f = true → f ≠ rootP → pathB t = true → t ≠ rootP → underB f t = false → at? xs f ≠ none → dirE xs (parD t) = 0 → (at? xs t ≠ none → (isDir xs f || isDir xs t) = false) → RefM xs f t 0

theorem isDir_at {xs : NS} {p : ByteArray} {i : Nat} (h : at? xs p = some i) (hi : i < xs.length) : isDir xs p = xs[i].dir := by
  unfold isDir dirE
  rw [h]
  simp only [List.getElem?_eq_getElem hi, Option.map_some, Option.getD_some]
  cases xs[i].dir <;> simp

set_option maxRecDepth 100000 in
set_option maxHeartbeats 1000000 in
theorem refuseMove_val {a : Option Addr} {n c : Nat} {xs : NS} {w : World} (h : NL w a n xs) (f t : ByteArray) (hf : f.size ≤ maxLen) (ht : t.size ≤ maxLen) (E : Int) (hE : RefM xs f t E) :
    Calls Tryz.prog 132 #[.slice a n c, .string f, .string t] w fun e w' => e = .returned (.int .i64 E) ∧ Below w.heap.size w w' := by
  have CR : Hid (∀ W u, Below w.heap.size w W → (u = true ↔ Right xs) → Calls Tryz.prog 33 #[.slice a n c] W fun e w' => e = .returned (.bool u) ∧ Below W.heap.size W w') := fun W u hb hu => right_val (h.below hb) u hu
  have CF : Hid (∀ W p I, Below w.heap.size w W → findI xs p = I → Calls Tryz.prog 73 #[.slice a n c, .string p] W fun e w' => e = .returned (.int .i64 I) ∧ Below W.heap.size W w') := fun W p I hb hI => find_val (h.below hb) p I hI
  have CP : Hid (∀ W F, Below w.heap.size w W → dirE xs (parD t) = F → Calls Tryz.prog 76 #[.slice a n c, .string t] W fun e w' => e = .returned (.int .i64 F) ∧ Below W.heap.size W w') := fun W F hb hF => refuseParent_val (h.below hb) t ht F hF
  have HLEN : Hid (xs.length = n) := by obtain ⟨_, _, _, _, k2, _⟩ := h.ex; exact k2
  have hlid := h.lid
  unfold maxLen at hlid
  have HF : Hid (f.size ≤ maxLen) := hf
  have HT : Hid (t.size ≤ maxLen) := ht
  have HNL : Hid (NL w a n xs) := h
  have ef := root_eq f
  have et := root_eq t
  clear h hf ht
  cases hE with
  | arg hn =>
    by_cases h1 : Right xs
    · have H1 : Hid (true = true ↔ Right xs) := ⟨fun _ => h1, fun _ => rfl⟩
      cases h2 : pathB f with
      | false =>
        have H2 : Hid _ := h2
        clear h1 h2 hn ef et
        go_enter Tryz.func132, Tryz.ntmps132
        go_wp2_with (first
          | (go_at_call 33; refine (CR.out _ true (Below.refl _ _) H1.out).mono ?_; rintro e w1 ⟨rfl, c1⟩; have cc1 : Hid _ := c1; clear c1)
          | (go_at_call_of 88 (Value.string f); refine (isPath_val f false _ HF.out H2.out).mono ?_; rintro e w2 ⟨rfl, c2⟩; have cc2 : Hid _ := bel_tr cc1.out c2; clear c2))
        go_ret
        exact ⟨rfl, cc2.out⟩
      | true =>
        have H2 : Hid _ := h2
        by_cases h3 : f = rootP
        · rw [decide_eq_true h3] at ef
          clear h1 h2 h3 hn et
          go_enter Tryz.func132, Tryz.ntmps132
          go_wp2_with (first
            | (go_at_call 33; refine (CR.out _ true (Below.refl _ _) H1.out).mono ?_; rintro e w1 ⟨rfl, c1⟩; have cc1 : Hid _ := c1; clear c1)
            | (go_at_call_of 88 (Value.string f); refine (isPath_val f true _ HF.out H2.out).mono ?_; rintro e w2 ⟨rfl, c2⟩; have cc2 : Hid _ := bel_tr cc1.out c2; clear c2))
          go_ret
          exact ⟨rfl, cc2.out⟩
        · rw [decide_eq_false h3] at ef
          cases h4 : pathB t with
          | false =>
            have H4 : Hid _ := h4
            clear h1 h2 h3 h4 hn et
            go_enter Tryz.func132, Tryz.ntmps132
            go_wp2_with (first
              | (go_at_call 33; refine (CR.out _ true (Below.refl _ _) H1.out).mono ?_; rintro e w1 ⟨rfl, c1⟩; have cc1 : Hid _ := c1; clear c1)
              | (go_at_call_of 88 (Value.string f); refine (isPath_val f true _ HF.out H2.out).mono ?_; rintro e w2 ⟨rfl, c2⟩; have cc2 : Hid _ := bel_tr cc1.out c2; clear c2)
              | (go_at_call_of 88 (Value.string t); refine (isPath_val t false _ HT.out H4.out).mono ?_; rintro e w3 ⟨rfl, c3⟩; have cc3 : Hid _ := bel_tr cc2.out c3; clear c3))
            go_ret
            exact ⟨rfl, cc3.out⟩
          | true =>
            have H4 : Hid _ := h4
            by_cases h5 : t = rootP
            · rw [decide_eq_true h5] at et
              clear h1 h2 h3 h4 h5 hn
              go_enter Tryz.func132, Tryz.ntmps132
              go_wp2_with (first
                | (go_at_call 33; refine (CR.out _ true (Below.refl _ _) H1.out).mono ?_; rintro e w1 ⟨rfl, c1⟩; have cc1 : Hid _ := c1; clear c1)
                | (go_at_call_of 88 (Value.string f); refine (isPath_val f true _ HF.out H2.out).mono ?_; rintro e w2 ⟨rfl, c2⟩; have cc2 : Hid _ := bel_tr cc1.out c2; clear c2)
                | (go_at_call_of 88 (Value.string t); refine (isPath_val t true _ HT.out H4.out).mono ?_; rintro e w3 ⟨rfl, c3⟩; have cc3 : Hid _ := bel_tr cc2.out c3; clear c3))
              go_ret
              exact ⟨rfl, cc3.out⟩
            · rw [decide_eq_false h5] at et
              have h6 : underB f t = true := by
                cases h6 : underB f t with
                | true => rfl
                | false => exact absurd ⟨h1, h2, h3, h4, h5, h6⟩ hn
              have H6 : Hid _ := h6
              clear h1 h2 h3 h4 h5 h6 hn
              go_enter Tryz.func132, Tryz.ntmps132
              go_wp2_with (first
                | (go_at_call 33; refine (CR.out _ true (Below.refl _ _) H1.out).mono ?_; rintro e w1 ⟨rfl, c1⟩; have cc1 : Hid _ := c1; clear c1)
                | (go_at_call_of 88 (Value.string f); refine (isPath_val f true _ HF.out H2.out).mono ?_; rintro e w2 ⟨rfl, c2⟩; have cc2 : Hid _ := bel_tr cc1.out c2; clear c2)
                | (go_at_call_of 88 (Value.string t); refine (isPath_val t true _ HT.out H4.out).mono ?_; rintro e w3 ⟨rfl, c3⟩; have cc3 : Hid _ := bel_tr cc2.out c3; clear c3)
                | (go_at_call 91; refine (under_val f t true _ HF.out HT.out H6.out).mono ?_; rintro e w4 ⟨rfl, c4⟩; have cc4 : Hid _ := bel_tr cc3.out c4; clear c4))
              go_ret
              exact ⟨rfl, cc4.out⟩
    · have H1 : Hid (false = true ↔ Right xs) := ⟨fun e => (by cases e), fun e => absurd e h1⟩
      clear h1 hn ef et
      go_enter Tryz.func132, Tryz.ntmps132
      go_wp2_with (first
        | (go_at_call 33; refine (CR.out _ false (Below.refl _ _) H1.out).mono ?_; rintro e w1 ⟨rfl, c1⟩; have cc1 : Hid _ := c1; clear c1))
      go_ret
      exact ⟨rfl, cc1.out⟩
  | none h1 h2 h3 h4 h5 h6 h7 =>
    have H1 : Hid (true = true ↔ Right xs) := ⟨fun _ => h1, fun _ => rfl⟩
    have H2 : Hid _ := h2
    have H4 : Hid _ := h4
    have H6 : Hid _ := h6
    rw [decide_eq_false h3] at ef
    rw [decide_eq_false h5] at et
    have H7 : Hid (findI xs f = -1) := find_neg h7
    clear h1 h2 h3 h4 h5 h6 h7
    go_enter Tryz.func132, Tryz.ntmps132
    go_wp2_with (first
      | (go_at_call 33; refine (CR.out _ true (Below.refl _ _) H1.out).mono ?_; rintro e w1 ⟨rfl, c1⟩; have cc1 : Hid _ := c1; clear c1)
      | (go_at_call_of 88 (Value.string f); refine (isPath_val f true _ HF.out H2.out).mono ?_; rintro e w2 ⟨rfl, c2⟩; have cc2 : Hid _ := bel_tr cc1.out c2; clear c2)
      | (go_at_call_of 88 (Value.string t); refine (isPath_val t true _ HT.out H4.out).mono ?_; rintro e w3 ⟨rfl, c3⟩; have cc3 : Hid _ := bel_tr cc2.out c3; clear c3)
      | (go_at_call 91; refine (under_val f t false _ HF.out HT.out H6.out).mono ?_; rintro e w4 ⟨rfl, c4⟩; have cc4 : Hid _ := bel_tr cc3.out c4; clear c4)
      | (go_at_call_of 73 (Value.string f); refine (CF.out _ f _ cc4.out H7.out).mono ?_; rintro e w5 ⟨rfl, c5⟩; have cc5 : Hid _ := bel_tr cc4.out c5; clear c5))
    go_ret
    exact ⟨rfl, cc5.out⟩
  | par e h1 h2 h3 h4 h5 h6 h7 h8 h9 =>
    have H1 : Hid (true = true ↔ Right xs) := ⟨fun _ => h1, fun _ => rfl⟩
    have H2 : Hid _ := h2
    have H4 : Hid _ := h4
    have H6 : Hid _ := h6
    rw [decide_eq_false h3] at ef
    rw [decide_eq_false h5] at et
    obtain ⟨i, h7a, h7b⟩ := find_pos h7
    have H7 : Hid (findI xs f = (i : Int)) := h7a
    have H8 : Hid (dirE xs (parD t) = E) := h8
    have h9b : (E != 0) = true := by simpa using h9
    clear h1 h2 h3 h4 h5 h6 h7 h7a h7b h8 h9
    go_enter Tryz.func132, Tryz.ntmps132
    go_wp2_with (first
      | (go_at_call 33; refine (CR.out _ true (Below.refl _ _) H1.out).mono ?_; rintro e w1 ⟨rfl, c1⟩; have cc1 : Hid _ := c1; clear c1)
      | (go_at_call_of 88 (Value.string f); refine (isPath_val f true _ HF.out H2.out).mono ?_; rintro e w2 ⟨rfl, c2⟩; have cc2 : Hid _ := bel_tr cc1.out c2; clear c2)
      | (go_at_call_of 88 (Value.string t); refine (isPath_val t true _ HT.out H4.out).mono ?_; rintro e w3 ⟨rfl, c3⟩; have cc3 : Hid _ := bel_tr cc2.out c3; clear c3)
      | (go_at_call 91; refine (under_val f t false _ HF.out HT.out H6.out).mono ?_; rintro e w4 ⟨rfl, c4⟩; have cc4 : Hid _ := bel_tr cc3.out c4; clear c4)
      | (go_at_call_of 73 (Value.string f); refine (CF.out _ f _ cc4.out H7.out).mono ?_; rintro e w5 ⟨rfl, c5⟩; have cc5 : Hid _ := bel_tr cc4.out c5; clear c5)
      | (go_at_call 76; refine (CP.out _ _ cc5.out H8.out).mono ?_; rintro e w6 ⟨rfl, c6⟩; have cc6 : Hid _ := bel_tr cc5.out c6; clear c6))
    go_ret
    exact ⟨rfl, cc6.out⟩
  | exist h1 h2 h3 h4 h5 h6 h7 h8 h9 h10 =>
    have H1 : Hid (true = true ↔ Right xs) := ⟨fun _ => h1, fun _ => rfl⟩
    have H2 : Hid _ := h2
    have H4 : Hid _ := h4
    have H6 : Hid _ := h6
    rw [decide_eq_false h3] at ef
    rw [decide_eq_false h5] at et
    obtain ⟨i, h7a⟩ : ∃ i, at? xs f = some i := by
      cases e : at? xs f with
      | none => exact absurd e h7
      | some i => exact ⟨i, rfl⟩
    have hi := (at_some h7a).1
    have H7 : Hid (findI xs f = (i : Int)) := by show _ = _; unfold findI; rw [h7a]
    have H8 : Hid (dirE xs (parD t) = 0) := h8
    have hin : i < n := by rw [← HLEN.out]; exact hi
    obtain ⟨b, off, hab⟩ := HNL.out.addr (by omega)
    have D1 : Hid (w.cell? ⟨b, off + i * 5 + 1, none⟩ = some (.bool xs[i].dir)) := HNL.out.dir hab hi
    have q1 := isDir_at h7a hi
    obtain ⟨k, h9a⟩ : ∃ k, at? xs t = some k := by
      cases e : at? xs t with
      | none => exact absurd e h9
      | some k => exact ⟨k, rfl⟩
    have hk := (at_some h9a).1
    have H9 : Hid (findI xs t = (k : Int)) := by show _ = _; unfold findI; rw [h9a]
    have hkn : k < n := by rw [← HLEN.out]; exact hk
    have D2 : Hid (w.cell? ⟨b, off + k * 5 + 1, none⟩ = some (.bool xs[k].dir)) := HNL.out.dir hab hk
    rw [q1, isDir_at h9a hk] at h10
    clear h1 h2 h3 h4 h5 h6 h7 h7a h8 h9 h9a q1
    generalize xs[i].dir = d1 at *
    generalize xs[k].dir = d2 at *
    subst hab
    cases d1 with
    | true =>
      go_enter Tryz.func132, Tryz.ntmps132
      go_wp2_with (first
        | (go_at_call 33; refine (CR.out _ true (Below.refl _ _) H1.out).mono ?_; rintro e w1 ⟨rfl, c1⟩; have cc1 : Hid _ := c1; clear c1)
        | (go_at_call_of 88 (Value.string f); refine (isPath_val f true _ HF.out H2.out).mono ?_; rintro e w2 ⟨rfl, c2⟩; have cc2 : Hid _ := bel_tr cc1.out c2; clear c2)
        | (go_at_call_of 88 (Value.string t); refine (isPath_val t true _ HT.out H4.out).mono ?_; rintro e w3 ⟨rfl, c3⟩; have cc3 : Hid _ := bel_tr cc2.out c3; clear c3)
        | (go_at_call 91; refine (under_val f t false _ HF.out HT.out H6.out).mono ?_; rintro e w4 ⟨rfl, c4⟩; have cc4 : Hid _ := bel_tr cc3.out c4; clear c4)
        | (go_at_call_of 73 (Value.string f); refine (CF.out _ f _ cc4.out H7.out).mono ?_; rintro e w5 ⟨rfl, c5⟩; have cc5 : Hid _ := bel_tr cc4.out c5; clear c5)
        | (go_at_call 76; refine (CP.out _ _ cc5.out H8.out).mono ?_; rintro e w6 ⟨rfl, c6⟩; have cc6 : Hid _ := bel_tr cc5.out c6; clear c6)
        | (go_at_call_of 73 (Value.string t); refine (CF.out _ t _ cc6.out H9.out).mono ?_; rintro e w7 ⟨rfl, c7⟩; have cc7 : Hid _ := bel_tr cc6.out c7; have y1 := bel_cell cc7.out D1.out; have y2 := bel_cell cc7.out D2.out; clear c7))
      go_ret
      exact ⟨rfl, cc7.out⟩
    | false =>
      have hd2 : d2 = true := by simpa using h10
      subst hd2
      go_enter Tryz.func132, Tryz.ntmps132
      go_wp2_with (first
        | (go_at_call 33; refine (CR.out _ true (Below.refl _ _) H1.out).mono ?_; rintro e w1 ⟨rfl, c1⟩; have cc1 : Hid _ := c1; clear c1)
        | (go_at_call_of 88 (Value.string f); refine (isPath_val f true _ HF.out H2.out).mono ?_; rintro e w2 ⟨rfl, c2⟩; have cc2 : Hid _ := bel_tr cc1.out c2; clear c2)
        | (go_at_call_of 88 (Value.string t); refine (isPath_val t true _ HT.out H4.out).mono ?_; rintro e w3 ⟨rfl, c3⟩; have cc3 : Hid _ := bel_tr cc2.out c3; clear c3)
        | (go_at_call 91; refine (under_val f t false _ HF.out HT.out H6.out).mono ?_; rintro e w4 ⟨rfl, c4⟩; have cc4 : Hid _ := bel_tr cc3.out c4; clear c4)
        | (go_at_call_of 73 (Value.string f); refine (CF.out _ f _ cc4.out H7.out).mono ?_; rintro e w5 ⟨rfl, c5⟩; have cc5 : Hid _ := bel_tr cc4.out c5; clear c5)
        | (go_at_call 76; refine (CP.out _ _ cc5.out H8.out).mono ?_; rintro e w6 ⟨rfl, c6⟩; have cc6 : Hid _ := bel_tr cc5.out c6; clear c6)
        | (go_at_call_of 73 (Value.string t); refine (CF.out _ t _ cc6.out H9.out).mono ?_; rintro e w7 ⟨rfl, c7⟩; have cc7 : Hid _ := bel_tr cc6.out c7; have y1 := bel_cell cc7.out D1.out; have y2 := bel_cell cc7.out D2.out; clear c7))
      go_ret
      exact ⟨rfl, cc7.out⟩
  | ok h1 h2 h3 h4 h5 h6 h7 h8 h9 =>
    have H1 : Hid (true = true ↔ Right xs) := ⟨fun _ => h1, fun _ => rfl⟩
    have H2 : Hid _ := h2
    have H4 : Hid _ := h4
    have H6 : Hid _ := h6
    rw [decide_eq_false h3] at ef
    rw [decide_eq_false h5] at et
    obtain ⟨i, h7a⟩ : ∃ i, at? xs f = some i := by
      cases e : at? xs f with
      | none => exact absurd e h7
      | some i => exact ⟨i, rfl⟩
    have hi := (at_some h7a).1
    have H7 : Hid (findI xs f = (i : Int)) := by show _ = _; unfold findI; rw [h7a]
    have H8 : Hid (dirE xs (parD t) = 0) := h8
    have hin : i < n := by rw [← HLEN.out]; exact hi
    obtain ⟨b, off, hab⟩ := HNL.out.addr (by omega)
    have D1 : Hid (w.cell? ⟨b, off + i * 5 + 1, none⟩ = some (.bool xs[i].dir)) := HNL.out.dir hab hi
    have q1 := isDir_at h7a hi
    cases h9a : at? xs t with
    | none =>
      have H9 : Hid (findI xs t = -1) := find_neg h9a
      clear h1 h2 h3 h4 h5 h6 h7 h7a h8 h9 h9a q1
      generalize xs[i].dir = d1 at *
      subst hab
      go_enter Tryz.func132, Tryz.ntmps132
      go_wp2_with (first
        | (go_at_call 33; refine (CR.out _ true (Below.refl _ _) H1.out).mono ?_; rintro e w1 ⟨rfl, c1⟩; have cc1 : Hid _ := c1; clear c1)
        | (go_at_call_of 88 (Value.string f); refine (isPath_val f true _ HF.out H2.out).mono ?_; rintro e w2 ⟨rfl, c2⟩; have cc2 : Hid _ := bel_tr cc1.out c2; clear c2)
        | (go_at_call_of 88 (Value.string t); refine (isPath_val t true _ HT.out H4.out).mono ?_; rintro e w3 ⟨rfl, c3⟩; have cc3 : Hid _ := bel_tr cc2.out c3; clear c3)
        | (go_at_call 91; refine (under_val f t false _ HF.out HT.out H6.out).mono ?_; rintro e w4 ⟨rfl, c4⟩; have cc4 : Hid _ := bel_tr cc3.out c4; clear c4)
        | (go_at_call_of 73 (Value.string f); refine (CF.out _ f _ cc4.out H7.out).mono ?_; rintro e w5 ⟨rfl, c5⟩; have cc5 : Hid _ := bel_tr cc4.out c5; clear c5)
        | (go_at_call 76; refine (CP.out _ _ cc5.out H8.out).mono ?_; rintro e w6 ⟨rfl, c6⟩; have cc6 : Hid _ := bel_tr cc5.out c6; clear c6)
        | (go_at_call_of 73 (Value.string t); refine (CF.out _ t _ cc6.out H9.out).mono ?_; rintro e w7 ⟨rfl, c7⟩; have cc7 : Hid _ := bel_tr cc6.out c7; clear c7))
      go_ret
      exact ⟨rfl, cc7.out⟩
    | some k =>
      have hk := (at_some h9a).1
      have H9 : Hid (findI xs t = (k : Int)) := by show _ = _; unfold findI; rw [h9a]
      have hkn : k < n := by rw [← HLEN.out]; exact hk
      have D2 : Hid (w.cell? ⟨b, off + k * 5 + 1, none⟩ = some (.bool xs[k].dir)) := HNL.out.dir hab hk
      have h10 := h9 (by rw [h9a]; simp)
      rw [q1, isDir_at h9a hk, Bool.or_eq_false_iff] at h10
      obtain ⟨h10a, h10b⟩ := h10
      rw [h10a] at D1
      rw [h10b] at D2
      clear h1 h2 h3 h4 h5 h6 h7 h7a h8 h9 h9a q1 h10a h10b
      subst hab
      go_enter Tryz.func132, Tryz.ntmps132
      go_wp2_with (first
        | (go_at_call 33; refine (CR.out _ true (Below.refl _ _) H1.out).mono ?_; rintro e w1 ⟨rfl, c1⟩; have cc1 : Hid _ := c1; clear c1)
        | (go_at_call_of 88 (Value.string f); refine (isPath_val f true _ HF.out H2.out).mono ?_; rintro e w2 ⟨rfl, c2⟩; have cc2 : Hid _ := bel_tr cc1.out c2; clear c2)
        | (go_at_call_of 88 (Value.string t); refine (isPath_val t true _ HT.out H4.out).mono ?_; rintro e w3 ⟨rfl, c3⟩; have cc3 : Hid _ := bel_tr cc2.out c3; clear c3)
        | (go_at_call 91; refine (under_val f t false _ HF.out HT.out H6.out).mono ?_; rintro e w4 ⟨rfl, c4⟩; have cc4 : Hid _ := bel_tr cc3.out c4; clear c4)
        | (go_at_call_of 73 (Value.string f); refine (CF.out _ f _ cc4.out H7.out).mono ?_; rintro e w5 ⟨rfl, c5⟩; have cc5 : Hid _ := bel_tr cc4.out c5; clear c5)
        | (go_at_call 76; refine (CP.out _ _ cc5.out H8.out).mono ?_; rintro e w6 ⟨rfl, c6⟩; have cc6 : Hid _ := bel_tr cc5.out c6; clear c6)
        | (go_at_call_of 73 (Value.string t); refine (CF.out _ t _ cc6.out H9.out).mono ?_; rintro e w7 ⟨rfl, c7⟩; have cc7 : Hid _ := bel_tr cc6.out c7; have y1 := bel_cell cc7.out D1.out; have y2 := bel_cell cc7.out D2.out; clear c7))
      go_ret
      exact ⟨rfl, cc7.out⟩

end Go.Proofs.YticiihjkgiookaaGreat

/- The contract of tree.Move. -/
namespace Go.Proofs.YticiihjkgiookaaGreat
open Go.RowKit

def mvR (f t : ByteArray) (x : NR) : NR := (movN f t x.1, x.2)
def mvTo (f t : ByteArray) (qs : List NR) (i : Nat) : List NR := (qs.take i).map (mvR f t) ++ qs.drop i

theorem mvTo_len (f t : ByteArray) (qs : List NR) (i : Nat) : (mvTo f t qs i).length = qs.length := by
  unfold mvTo; rw [List.length_append, List.length_map, List.length_take, List.length_drop]; omega
theorem mvTo_zero (f t : ByteArray) (qs : List NR) : mvTo f t qs 0 = qs := by simp [mvTo]
theorem mvTo_all (f t : ByteArray) (qs : List NR) (i : Nat) (h : qs.length ≤ i) : mvTo f t qs i = qs.map (mvR f t) := by
  unfold mvTo; rw [List.take_of_length_le h, List.drop_of_length_le h, List.append_nil]
theorem mvTo_at (f t : ByteArray) (qs : List NR) (i : Nat) (h : i < qs.length) : (mvTo f t qs i)[i]'(by rw [mvTo_len]; exact h) = qs[i] := by
  unfold mvTo
  rw [List.getElem_append_right (by rw [List.length_map, List.length_take]; omega)]
  simp only [List.length_map, List.length_take, List.getElem_drop]
  congr 1
  omega
theorem mvTo_next (f t : ByteArray) (qs : List NR) (i : Nat) (h : i < qs.length) : mvTo f t qs (i + 1) = (mvTo f t qs i).set i (mvR f t qs[i]) := by
  unfold mvTo
  rw [List.take_succ_eq_append_getElem h, List.map_append, List.set_append_right _ _ (by rw [List.length_map, List.length_take]; omega)]
  have e : i - ((qs.take i).map (mvR f t)).length = 0 := by rw [List.length_map, List.length_take]; omega
  rw [e, List.drop_eq_getElem_cons h, List.set_cons_zero]
  simp
theorem mvTo_snd (f t : ByteArray) (qs : List NR) (i : Nat) : ∀ x ∈ mvTo f t qs i, ∃ y ∈ qs, x.2 = y.2 ∧ x.1.bs = y.1.bs ∧ (x = y ∨ x = mvR f t y) := by
  intro x hx
  unfold mvTo at hx
  rcases List.mem_append.1 hx with hx | hx
  · obtain ⟨y, hy, rfl⟩ := List.mem_map.1 hx
    exact ⟨y, List.mem_of_mem_take hy, rfl, rfl, .inr rfl⟩
  · exact ⟨x, List.mem_of_mem_drop hx, rfl, rfl, .inl rfl⟩

/-- A node's path is written. -/
theorem Cel.setPath {O : Nat → Prop} {w : World} {a : Option Addr} {n c g : Nat} {qs : List NR} (h : Cel O w 5 (.slice a n c) n (rowC ndC qs) (some g)) (hn : qs.length = n) (i : Nat) (hi : i < n) (y : NR) (hy : ∀ j, 0 < j → (ndC y)[j]? = (ndC (qs[i]'(by omega)))[j]?) :
    Cel O (w.setCell ⟨g, i * 5, none⟩ (.string y.1.path)) 5 (.slice a n c) n (rowC ndC (qs.set i y)) (some g) := by
  have hc := h.cap2.1
  have h1 : (i + 1) * 5 ≤ c * 5 := Nat.mul_le_mul_right _ (by omega)
  have hl : (rowC ndC (qs.set i y)).length = n * 5 := by rw [rowC_len wideX, List.length_set, hn]
  refine h.setCells (i * 5) [.string y.1.path] (by simp; omega) n _ hc hl (fun q hq => ?_)
  rw [← List.getElem?_eq_getElem hq]
  rw [hl] at hq
  have hd : q / 5 < n := by omega
  have e := rowC_at wideX (qs.set i y) (q / 5) (by rw [List.length_set]; omega) (q % 5) (by omega)
  have e' := rowC_at wideX qs (q / 5) (by omega) (q % 5) (by omega)
  have e2 : q / 5 * 5 + q % 5 = q := by omega
  rw [e2] at e e'
  rw [e, e']
  by_cases hqi : q / 5 = i
  · subst hqi
    rw [List.getElem_set_self]
    by_cases h0 : q % 5 = 0
    · rw [if_pos (by simp; omega), show q - q / 5 * 5 = 0 by omega, h0]; rfl
    · rw [if_neg (by simp; omega), hy _ (by omega)]
  · rw [if_neg (by simp; omega), List.getElem_set_ne (fun e => hqi e.symm)]

theorem move_err {p f t : ByteArray} (hu : underB f p = true) (ht : splitE t = 0) (h : (moveX p f t).2 ≠ 0) : (moveX p f t).2 = 4 := by
  obtain ⟨h1, h2, h3⟩ := underB_iff.1 hu
  rw [moveX, if_pos ⟨hu, ht⟩] at *
  rcases joinX_cases (splitN t ++ (splitN p).drop (splitN f).length) with ⟨_, e⟩ | ⟨_, e, k⟩ | ⟨_, e, _⟩
  · rw [e] at h; exact absurd rfl h
  · rw [List.all_append, List.all_eq_true.2 (split_ok ht).1.names, Bool.true_and, List.all_eq_false] at k
    obtain ⟨m, hm, hm2⟩ := k
    exact absurd ((split_ok h2).1.names m (List.mem_of_mem_drop hm)) hm2
  · rw [e]

theorem moveX_small (p f t : ByteArray) : (moveX p f t).1.size ≤ maxLen := by
  obtain ⟨⟨q, E⟩, h⟩ : ∃ x, moveX p f t = x := ⟨_, rfl⟩
  rw [h]
  by_cases hE : E = 0
  · subst hE
    have := (move_back h).2.2
    show q.size ≤ maxLen
    unfold maxLen; omega
  · rw [moveX_empty h hE]; exact Nat.zero_le _

/-- Behind the loop: what was moved. -/
theorem moved_lot {base : Nat} {w4 wr : World} {am : Option Addr} {m cm : Nat} {qs : List NR} {g : Option Nat} {f t : ByteArray} (hL : Lot base w4 am m cm qs g) (hC : Cel (fun k => base ≤ k) wr 5 (.slice am m cm) m (rowC ndC (qs.map (mvR f t))) g) (hS : Stay (fun k => g = some k) w4 wr) : Lot base wr am m cm (qs.map (mvR f t)) g := by
  refine ⟨hC, by rw [List.length_map]; exact hL.len, fun x hx => ?_, fun x hx => ?_⟩
  · obtain ⟨y, hy, rfl⟩ := List.mem_map.1 hx
    have h1 := Stay.free (hL.ok y hy) hS (fun k hk e => hL.ap y hy k e hk)
    exact ⟨⟨moveX_small _ _ _, h1.ok.bs⟩, h1.own⟩
  · obtain ⟨y, hy, rfl⟩ := List.mem_map.1 hx
    exact hL.ap y hy

theorem refM_of {xs : NS} {f t : ByteArray} {E : Int} (h : MovE xs f t E) : (E ≠ 0 ∧ RefM xs f t E) ∨ (RefM xs f t 0 ∧ (E = 0 ∨ E = 4)) := by
  cases h with
  | arg h => exact .inl ⟨by decide, .arg h⟩
  | none h1 h2 h3 h4 h5 h6 h7 => exact .inl ⟨by decide, .none h1 h2 h3 h4 h5 h6 h7⟩
  | par e h1 h2 h3 h4 h5 h6 h7 h8 h9 => exact .inl ⟨h9, .par E h1 h2 h3 h4 h5 h6 h7 h8 h9⟩
  | exist h1 h2 h3 h4 h5 h6 h7 h8 h9 h10 => exact .inl ⟨by decide, .exist h1 h2 h3 h4 h5 h6 h7 h8 h9 h10⟩
  | long h1 h2 h3 h4 h5 h6 h7 h8 h9 h10 => exact .inr ⟨.ok h1 h2 h3 h4 h5 h6 h7 h8 h9, .inr rfl⟩
  | ok h1 h2 h3 h4 h5 h6 h7 h8 h9 h10 => exact .inr ⟨.ok h1 h2 h3 h4 h5 h6 h7 h8 h9, .inl rfl⟩

def movA (xs : NS) (f t : ByteArray) (E : Int) : NS := if E = 0 then movL xs f t else []

set_option maxRecDepth 100000 in
set_option maxHeartbeats 1000000 in
theorem move_bad {a : Option Addr} {n c : Nat} {xs : NS} {w : World} (h : NL w a n xs) (f t : ByteArray) (hf : f.size ≤ maxLen) (ht : t.size ≤ maxLen) (E : Int) (hE : RefM xs f t E) (h0 : E ≠ 0) :
    Calls Tryz.prog 92 #[.slice a n c, .string f, .string t] w fun e w' => TwoR w.heap.size [] E e w' ∧ Below w.heap.size w w' := by
  have CM : Hid (∀ W, Below w.heap.size w W → Calls Tryz.prog 132 #[.slice a n c, .string f, .string t] W fun e w' => e = .returned (.int .i64 E) ∧ Below W.heap.size W w') := fun W hb => refuseMove_val (h.below hb) f t hf ht E hE
  have h0b : (E != 0) = true := by simpa using h0
  clear h hf ht hE h0
  go_enter Tryz.func92, Tryz.ntmps92
  go_wp2_with (go_at_call 132; refine (CM.out _ (bel_tr (bel_al _ _) (bel_al _ _))).mono ?_; rintro e w1 ⟨rfl, c1⟩; have cc : Hid _ := bel_tr (bel_tr (bel_al _ _) (bel_al _ _)) c1; clear c1)
  go_ret2
  exact ⟨TwoR.no _ _ rfl, cc.out⟩

set_option maxRecDepth 100000 in
set_option maxHeartbeats 2000000 in
theorem move_good {a : Option Addr} {n c : Nat} {xs : NS} {w : World} (h : NL w a n xs) (f t : ByteArray) (hf : f.size ≤ maxLen) (ht : t.size ≤ maxLen) (E : Int) (hR : RefM xs f t 0) (hE : MovE xs f t E) (h04 : E = 0 ∨ E = 4) :
    Calls Tryz.prog 92 #[.slice a n c, .string f, .string t] w fun e w' => TwoR w.heap.size (movA xs f t E) E e w' ∧ Below w.heap.size w w' := by
  have CM : Hid (∀ W, Below w.heap.size w W → Calls Tryz.prog 132 #[.slice a n c, .string f, .string t] W fun e w' => e = .returned (.int .i64 0) ∧ Below W.heap.size W w') := fun W hb => refuseMove_val (h.below hb) f t hf ht 0 hR
  have HLEN : Hid (xs.length = n) := by obtain ⟨_, _, _, _, k2, _⟩ := h.ex; exact k2
  have hright : Right xs := by
    cases hR with
    | par e h1 h2 h3 h4 h5 h6 h7 h8 h9 => exact h1
    | ok h1 h2 h3 h4 h5 h6 h7 h8 h9 => exact h1
  have hpt : splitE t = 0 := by
    cases hR with
    | par e h1 h2 h3 h4 h5 h6 h7 h8 h9 => simpa [pathB] using h4
    | ok h1 h2 h3 h4 h5 h6 h7 h8 h9 => simpa [pathB] using h4
  have hn60 : n ≤ 60 := by rw [← HLEN.out]; exact hright.few
  obtain ⟨ss, hss⟩ : ∃ ss, xs.filter (stayB f t) = ss := ⟨_, rfl⟩
  obtain ⟨ys, hys⟩ : ∃ ys, xs.filter (goesB f) = ys := ⟨_, rfl⟩
  obtain ⟨k, hk⟩ : ∃ k, ss.length = k := ⟨_, rfl⟩
  obtain ⟨m, hm⟩ : ∃ m, ys.length = m := ⟨_, rfl⟩
  have hk60 : k ≤ 60 := by
    have := List.length_filter_le (stayB f t) xs
    rw [hss, hk, HLEN.out] at this; omega
  have hm60 : m ≤ 60 := by
    have := List.length_filter_le (goesB f) xs
    rw [hys, hm, HLEN.out] at this; omega
  have HYM : Hid (ys.length = m) := hm
  have HUN : Hid (∀ x ∈ ys, underB f x.path = true) := fun x hx => by
    rw [← hys] at hx
    exact (List.mem_filter.1 hx).2
  have HLONG : Hid (E = 4 → ∃ x ∈ ys, (moveX x.path f t).2 ≠ 0) := fun e => by
    subst e
    cases hE with
    | par e h1 h2 h3 h4 h5 h6 h7 h8 h9 =>
      cases hR with
      | par e h1 h2 h3 h4 h5 h6 h7 h8' h9 => exact absurd rfl h9
      | ok h1 h2 h3 h4 h5 h6 h7 h8' h9 => rw [h8'] at h8; cases h8
    | long h1 h2 h3 h4 h5 h6 h7 h8 h9 h10 =>
      obtain ⟨x, hx, hu, hne⟩ := h10
      exact ⟨x, by rw [← hys]; exact List.mem_filter.2 ⟨hx, hu⟩, hne⟩
  have HOK : Hid (E = 0 → (∀ x ∈ ys, (moveX x.path f t).2 = 0) ∧ Apart (ss ++ ys.map (movN f t)) ∧ movA xs f t E = sortN (ss ++ ys.map (movN f t)) ∧ 0 < m) := fun e => by
    subst e
    have hM := mov_of hE
    refine ⟨fun x hx => ?_, ?_, ?_, ?_⟩
    · rw [← hys] at hx
      obtain ⟨h1, h2⟩ := List.mem_filter.1 hx
      exact hM.okm x h1 h2
    · rw [← hss, ← hys]; exact hM.apart
    · rw [← hss, ← hys]; rfl
    · obtain ⟨x, hx, hxf⟩ := hM.src
      have : x ∈ ys := by
        rw [← hys]
        refine List.mem_filter.2 ⟨hx, ?_⟩
        show underB f x.path = true
        rw [hxf]; exact under_self hM.pf
      rw [← hm]; exact List.length_pos_of_mem this
  have H4 : Hid (E ≠ 0 → E = 4) := fun e => h04.resolve_left e
  have HERR : Hid (∀ x ∈ ys, (moveX x.path f t).2 ≠ 0 → (moveX x.path f t).2 = 4) := fun x hx hne => move_err (HUN.out x hx) hpt hne
  have HPF : Hid (f.size ≤ maxLen) := hf
  have HPT : Hid (t.size ≤ maxLen) := ht
  have C1 : Hid (∀ W F T G, Below w.heap.size w W → W.cell? ⟨F, 0, none⟩ = some (.string f) → W.cell? ⟨T, 0, none⟩ = some (.string t) → W.cell? ⟨G, 0, none⟩ = some (.func (.func 133) #[] #[.pointer (some ⟨F, 0, none⟩)]) → Calls Tryz.prog 89 #[.slice a n c, .func (.func 134) #[] #[.pointer (some ⟨T, 0, none⟩), .pointer (some ⟨G, 0, none⟩)]] W fun e w' => ListR W.heap.size ss k e w' ∧ Below W.heap.size W w') := fun W F T G hb h1 h2 h3 =>
    chosen_val (h.below hb) hn60 hright.few8 134 #[.pointer (some ⟨T, 0, none⟩), .pointer (some ⟨G, 0, none⟩)] (stayB f t) (enters_of Tryz.func134 (by kernel_rfl) rfl) (fun W2 x hb2 hx => move2_val f t hf F T G W2 (bel_cell hb2 h1) (bel_cell hb2 h2) (bel_cell hb2 h3) x hx) ss hss k hk
  have C2 : Hid (∀ W F, Below w.heap.size w W → W.cell? ⟨F, 0, none⟩ = some (.string f) → Calls Tryz.prog 89 #[.slice a n c, .func (.func 133) #[] #[.pointer (some ⟨F, 0, none⟩)]] W fun e w' => ListR W.heap.size ys m e w' ∧ Below W.heap.size W w') := fun W F hb h1 =>
    chosen_val (h.below hb) hn60 hright.few8 133 #[.pointer (some ⟨F, 0, none⟩)] (goesB f) (enters_of Tryz.func133 (by kernel_rfl) rfl) (fun W2 x hb2 hx => move1_val f hf F W2 (bel_cell hb2 h1) x hx) ys hys m hm
  obtain ⟨ti, hi1, hi2, hi3, hi4⟩ := ndRow
  have hst := run_store_str
  have hst2 : ∀ (w : World) (a : Addr) (fn : Fn) (x y : Array Value) (m : Mode), (store a (.func fn x y) m).run Tryz.prog w = stored Tryz.prog w a (.func fn x y) m := fun w a fn x y m => run_store_any w a _ m rfl
  clear h hf ht hR hE h04 hright hpt hss hys hk hm
  go_enter Tryz.func92, Tryz.ntmps92
  go_wp2_with (first
    | (go_at_call 132; refine (CM.out _ (bel_tr (bel_al _ _) (bel_al _ _))).mono ?_; rintro e w1 ⟨rfl, c1⟩; have cc : Hid _ := bel_tr (bel_tr (bel_al _ _) (bel_al _ _)) c1; have tf := (two_boxes c1).1 0 _ rfl; have tt := (two_boxes c1).2.2.1 0 _ rfl; have TF : Hid (w1.cell? ⟨w.heap.size, 0, none⟩ = some (.string f)) := tf; have TT : Hid (w1.cell? ⟨w.heap.size + 1, 0, none⟩ = some (.string t)) := tt; have HG : Hid (∀ ty, (w1.alloc (.cells #[.func (.func 133) #[] #[.pointer (some ⟨w.heap.size, 0, none⟩)]] ty)).cell? ⟨w1.heap.size, 0, none⟩ = some (.func (.func 133) #[] #[.pointer (some ⟨w.heap.size, 0, none⟩)])) := fun ty => World.cell?_alloc_new w1 _ ty 0; clear c1))
  refine (C1.out _ w.heap.size (w.heap.size + 1) w1.heap.size (bel_tr cc.out (bel_al _ _)) (cell_al TF.out _) (cell_al TT.out _) (HG.out _)).mono ?_
  rintro e w3 ⟨⟨a3, c3, rfl, hX3⟩, d3⟩
  have cc3 : Hid (Below w.heap.size w w3) := bel_tr (bel_tr cc.out (bel_al _ _)) d3
  have tf3 := bel_cell d3 (cell_al TF.out _)
  have tt3 := bel_cell d3 (cell_al TT.out _)
  have tg3 := bel_cell d3 (HG.out _)
  have HX3 : Hid (LX w.heap.size w3 a3 k c3 ss) := hX3.mono (bel_tr cc.out (bel_al _ _)).size
  have TF3 : Hid _ := tf3
  have TT3 : Hid _ := tt3
  clear d3 hX3
  go_wp2_with fail
  refine (C2.out _ w.heap.size cc3.out TF3.out).mono ?_
  rintro e w4 ⟨⟨a4, c4, rfl, hX4⟩, d4⟩
  have cc4 : Hid (Below w3.heap.size w3 w4) := d4
  have HX4 : Hid (LX w3.heap.size w4 a4 m c4 ys) := hX4
  clear d4 hX4
  go_wp2
  have HTF : Hid (w4.cell? ⟨w.heap.size, 0, none⟩ = some (.string f)) := bel_cell cc4.out TF3.out
  have HTT : Hid (w4.cell? ⟨w.heap.size + 1, 0, none⟩ = some (.string t)) := bel_cell cc4.out TT3.out
  have hlt0 : w.heap.size < w3.heap.size := World.block_lt_of_cell? _ _ TF3.out
  have hlt1 : w.heap.size + 1 < w3.heap.size := World.block_lt_of_cell? _ _ TT3.out
  have HLT0 : Hid _ := hlt0
  have HLT1 : Hid _ := hlt1
  obtain ⟨qs, g, hq, hL⟩ := HX4.out.ex
  have HQ : Hid (qs.map (·.1) = ys) := hq
  have HL : Hid (Lot w3.heap.size w4 a4 m c4 qs g) := hL
  clear tf tt tf3 tt3 tg3 TF TT TF3 TT3 CM C1 C2 hq hL hlt0 hlt1 HX4
  go_loopw [12, 13, 14, 31] (fun _ _ _ v31 wr => ∃ i : Nat, i ≤ m ∧ v31 = .int .i64 i ∧ Cel (fun k => w3.heap.size ≤ k) wr 5 (.slice a4 m c4) m (rowC ndC (mvTo f t qs i)) g ∧ Stay (fun k => g = some k) w4 wr ∧ ∀ j (hj : j < ys.length), j < i → (moveX ys[j].path f t).2 = 0) (fun _ _ _ v31 _ => m - (intOf v31).toNat)
  case atStart => exact ⟨0, by omega, rfl, by rw [mvTo_zero]; exact HL.out.cel, Stay.refl _ _, fun j hj h0 => by omega⟩
  case round =>
    obtain ⟨i, hi, rfl, hC, hS, hz⟩ := hrel
    have HC : Hid (Cel (fun k => w3.heap.size ≤ k) wr 5 (.slice a4 m c4) m (rowC ndC (mvTo f t qs i)) g) := hC
    have HS : Hid (Stay (fun k => g = some k) w4 wr) := hS
    have HZ : Hid (∀ j (hj : j < ys.length), j < i → (moveX ys[j].path f t).2 = 0) := hz
    have hqm : qs.length = m := HL.out.len
    by_cases hlt : i < m
    · have hiq : i < qs.length := by omega
      have hiy : i < ys.length := by rw [HYM.out]; exact hlt
      obtain ⟨gb, hab, hgb⟩ := hC.at2 (by omega)
      subst hab hgb
      have hgb3 : w3.heap.size ≤ gb := hC.lt.2
      have eqy : qs[i].1 = ys[i] := by
        have := HQ.out
        subst this
        simp
      obtain ⟨b', e1, e2, e3⟩ := hC.elem wideX (i := i) (by rw [mvTo_len]; exact hiq) (by rw [mvTo_len]; exact hqm)
      cases e1
      rw [mvTo_at f t qs i hiq] at e3
      have y0 : wr.cell? ⟨gb, i * 5, none⟩ = some (.string qs[i].1.path) := e3 0 _ rfl
      have hcap := hC.cap2.1
      have hlv := (hC.live (i * 5) (by omega)).2
      have hsz : qs[i].1.path.size ≤ maxLen := (HL.out.ok _ (List.getElem_mem hiq)).ok.small
      have bf : wr.cell? ⟨w.heap.size, 0, none⟩ = some (.string f) := (World.cell?_of_block (a := ⟨w.heap.size, 0, none⟩) (hS.block _ (World.block_lt_of_cell? _ _ HTF.out) (fun e => by have := HLT0.out; have e2 : gb = w.heap.size := (by simpa using e); omega))).trans HTF.out
      have bt : wr.cell? ⟨w.heap.size + 1, 0, none⟩ = some (.string t) := (World.cell?_of_block (a := ⟨w.heap.size + 1, 0, none⟩) (hS.block _ (World.block_lt_of_cell? _ _ HTT.out) (fun e => by have := HLT1.out; have e2 : gb = w.heap.size + 1 := (by simpa using e); omega))).trans HTT.out
      obtain ⟨T, F, hX⟩ : ∃ T F, moveX qs[i].1.path f t = (T, F) := ⟨_, _, rfl⟩
      have HF2 : Hid ((moveX ys[i].path f t).2 = F) := by show _ = _; rw [← eqy, hX]
      have HT2 : Hid (T = (mvR f t qs[i]).1.path) := by show T = (moveX qs[i].1.path f t).1; rw [hX]
      have HMEM : Hid (ys[i] ∈ ys) := List.getElem_mem hiy
      have hz1 : F = 0 → ∀ j (hj : j < ys.length), j < i + 1 → (moveX ys[j].path f t).2 = 0 := fun e j hj h2 => by
        rcases Nat.lt_or_ge j i with h3 | h3
        · exact hz j hj h3
        · obtain rfl : j = i := by omega
          rw [HF2.out]; exact e
      have HZ1 : Hid _ := hz1
      have HSET : Hid (∀ w5, Below wr.heap.size wr w5 → w5.cell? ⟨gb, i * 5, none⟩ = some (.string qs[i].1.path) ∧ w5.frozen? ⟨gb, i * 5, none⟩ = false ∧ Cel (fun k => w3.heap.size ≤ k) (w5.setCell ⟨gb, i * 5, none⟩ (.string T)) 5 (.slice (some ⟨gb, 0, none⟩) m c4) m (rowC ndC (mvTo f t qs (i + 1))) (some gb) ∧ Stay (fun k => some gb = some k) w4 (w5.setCell ⟨gb, i * 5, none⟩ (.string T))) := fun w5 B => by
        have hC5 := HC.out.below B
        refine ⟨bel_cell B y0, (hC5.live (i * 5) (by omega)).2, ?_, (HS.out.then_below B).then_same (Stay.setCell _ _ _ rfl)⟩
        rw [mvTo_next f t qs i hiq, HT2.out]
        refine hC5.setPath (by rw [mvTo_len]; exact hqm) i hlt _ (fun j hj => ?_)
        rw [mvTo_at f t qs i hiq]
        cases j with
        | zero => omega
        | succ j => rfl
      have CV : Hid (∀ dd os, Calls Tryz.prog 135 #[.string qs[i].1.path, .string f, .string t] (Sort.grow (redrawn wr dd) os) fun e w' => e = .returned (.tuple #[.string T, .int .i64 F]) ∧ Below (Sort.grow (redrawn wr dd) os).heap.size (Sort.grow (redrawn wr dd) os) w') := fun dd os => move_val qs[i].1.path f t T F _ hsz HPF.out HPT.out hX
      have r0 : ∀ dd os, (Sort.grow (redrawn wr dd) os).cell? ⟨gb, i * 5, none⟩ = some (.string qs[i].1.path) := fun dd os => cell_regrown y0 dd os
      have r1 : ∀ dd os, (Sort.grow (redrawn wr dd) os).cell? ⟨w.heap.size, 0, none⟩ = some (.string f) := fun dd os => cell_regrown bf dd os
      have r2 : ∀ dd os, (Sort.grow (redrawn wr dd) os).cell? ⟨w.heap.size + 1, 0, none⟩ = some (.string t) := fun dd os => cell_regrown bt dd os
      clear hC hS hz hX hz1 e2 e3 y0 hlv hsz bf bt eqy hcap hgb3
      generalize qs[i].1.path = q at *
      by_cases hF0 : F = 0
      · subst hF0
        have HZ2 : Hid _ := HZ1.out rfl
        clear HZ1
        go_wp2
        refine wp_region_quiet_below (by kernel_rfl) (by kernel_rfl) ?_
        repeat (first | go_big_quiet_step (exact Calls.regrown_of (CV.out _ _)) | quiet_step (exact Calls.regrown_of (CV.out _ _)))
        refine wpQuiet_nil ?_
        intro _ hw'
        obtain ⟨⟨dq, osq⟩, hw''⟩ := hw'
        subst hw''
        have B5 : Hid (Below wr.heap.size wr (Sort.grow (redrawn wr dq) osq)) := below_regrown wr dq osq
        clear r0 r1 r2 CV
        generalize Sort.grow (redrawn wr dq) osq = w5 at *
        obtain ⟨s0, s1, s2, s3⟩ := HSET.out w5 B5.out
        have HX : Hid _ := And.intro s2 s3
        clear s2 s3
        go_wp2
        go_roundw
        case rel => exact ⟨i + 1, by omega, by go_num, HX.out.1, HX.out.2, HZ2.out⟩
        case measure => simp [intOf]; omega
      · have hF4 : F = 4 := by
          have := HERR.out _ HMEM.out (by rw [HF2.out]; exact hF0)
          rw [HF2.out] at this; exact this
        subst hF4
        have hE4 : E = 4 := H4.out (fun e => hF0 (by rw [← HF2.out]; exact (HOK.out e).1 _ HMEM.out))
        subst hE4
        have hr : Hid (movA xs f t 4 = []) := rfl
        go_wp2
        refine wp_region_quiet_below (by kernel_rfl) (by kernel_rfl) ?_
        repeat (first | go_big_quiet_step (exact Calls.regrown_of (CV.out _ _)) | quiet_step (exact Calls.regrown_of (CV.out _ _)))
        refine wpQuiet_nil ?_
        intro _ hw'
        obtain ⟨⟨dq, osq⟩, hw''⟩ := hw'
        subst hw''
        have B5 : Hid (Below wr.heap.size wr (Sort.grow (redrawn wr dq) osq)) := below_regrown wr dq osq
        clear r0 r1 r2 CV HSET
        generalize Sort.grow (redrawn wr dq) osq = w5 at *
        go_wp2
        go_ret2
        refine ⟨by rw [hr.out]; exact TwoR.no _ _ rfl, ?_⟩
        have z := HLT0.out
        have h34 : Below w.heap.size w w4 := bel_tr cc3.out cc4.out
        exact (h34.trans (HS.out.below h34.size (fun k hk => by have := HC.out.lt.2; cases hk; omega))).trans (B5.out.mono (Nat.le_trans h34.size HS.out.size))
    · obtain rfl : i = m := by omega
      have hgd : decide ((i : Int) < (i : Int)) = false := decide_eq_false (by omega)
      have hE0 : E = 0 := by
        by_cases e : E = 0
        · exact e
        · obtain ⟨x, hx, hne⟩ := HLONG.out (H4.out e)
          obtain ⟨j, hj, rfl⟩ := List.getElem_of_mem hx
          exact absurd (hz j hj (by have := HYM.out; omega)) hne
      subst hE0
      obtain ⟨_, hap, hmA, hm0⟩ := HOK.out rfl
      have HMA : Hid _ := hmA
      have HAP : Hid (Apart (ss ++ ys.map (movN f t))) := hap
      rw [mvTo_all f t qs i (by omega)] at hC
      have hML := moved_lot HL.out hC hS
      have h34 : Below w.heap.size w w4 := bel_tr cc3.out cc4.out
      have hgl : ∀ k, g = some k → w3.heap.size ≤ k := fun k hk => by rw [hk] at hC; exact hC.lt.2
      have h4r : Below w3.heap.size w4 wr := hS.below cc4.out.size hgl
      have h3r : Below w3.heap.size w3 wr := cc4.out.trans h4r
      obtain ⟨ps, gs, hps, hsL3⟩ := HX3.out.ex
      have hsL := hsL3.below h3r
      have hgs : ∀ k, gs = some k → k < w3.heap.size ∧ w.heap.size ≤ k := fun k hk => by have := hsL3.cel; rw [hk] at this; exact this.lt
      have hpl : ps.length = k := hsL.len
      have HSL : Hid (Lot w.heap.size wr a3 k c3 ps gs) := hsL
      have hSrc := src_firstC Tryz.underlying24 wideX hC (by rw [List.length_map]; exact hqm) i (Nat.le_refl _)
      rw [List.take_of_length_le (by rw [List.length_map]; omega)] at hSrc
      have HSRC : Hid (Src Tryz.prog 5 24 (.slice a4 i c4) i (rowC ndC (qs.map (mvR f t))) wr) := hSrc
      have HNEW : Hid (∀ a7 c7 w7 g7, Cel (Grow (fun k => w.heap.size ≤ k) wr w7) w7 5 (.slice a7 (k + i) c7) (k + i) (rowC ndC ps ++ rowC ndC (qs.map (mvR f t))) g7 → Stay (fun k => gs = some k) wr w7 → (∀ k, g7 = some k → gs = some k ∨ wr.heap.size ≤ k) → LX w.heap.size w7 a7 (k + i) c7 (ss ++ ys.map (movN f t)) ∧ Below w.heap.size w w7) := fun a7 c7 w7 g7 hC7 hS7 hg7 => by
        have z0 := cc3.out.size
        have z1 := h3r.size
        refine ⟨⟨ps ++ qs.map (mvR f t), g7, ?_, hsL.app (qs := qs.map (mvR f t)) (fun x hx => (hML.ok x hx).mono z0) (fun x hx k hk e => ?_) (by rw [List.length_map]; exact hqm) hC7 hS7 hg7 (by omega)⟩, ?_⟩
        · rw [List.map_append, hps, ← HQ.out, List.map_map, List.map_map]; rfl
        · have := (hML.ok x hx).blk_ge k e
          have := (hgs k hk).1
          omega
        · exact (cc3.out.trans (h3r.mono z0)).trans (hS7.below (by omega) (fun k hk => (hgs k hk).2))
      clear hC hS hz hML hgl hsL hsL3 hSrc hmA hap hlt hgs
      go_wp2_with (first
        | (at_builtin; refine wpList_append_cel _ rfl _ _ 24 24 rfl 35 ti _ 5 64 Tryz.underlying24 hi1 hi2 hi3 hi4 rfl (O := fun k => w.heap.size ≤ k) _ k _ gs rfl HSL.out.cel _ i (rowC ndC (qs.map (mvR f t))) rfl HSRC.out (by unfold maxLen; omega) (by omega) ?_; intro a7 c7 w7 g7 hC7 hS7 hf7; have HX7 : Hid (LX w.heap.size w7 a7 (k + i) c7 (ss ++ ys.map (movN f t)) ∧ Below w.heap.size w w7) := HNEW.out a7 c7 w7 g7 hC7 hS7 hf7; clear hC7 hS7 hf7)
        | (go_at_call 126; refine (ordered_val HX7.out.1 (by omega) (by omega) HAP.out).mono ?_; rintro e w8 ⟨rfl, hX8, hS8⟩; have HX8 : Hid (LX w.heap.size w8 a7 (k + i) c7 (sortN (ss ++ ys.map (movN f t)))) := hX8; have HS8 : Hid (Stay (fun k => w.heap.size ≤ k) w7 w8) := hS8; clear hX8 hS8))
      go_ret2
      exact ⟨⟨a7, k + i, c7, rfl, by rw [HMA.out]; exact HX8.out⟩, HX7.out.2.trans (HS8.out.below HX7.out.2.size (fun k hk => hk))⟩

theorem move_tree {a : Option Addr} {n c : Nat} {xs : NS} {w : World} (h : NL w a n xs) (f t : ByteArray) (hf : f.size ≤ maxLen) (ht : t.size ≤ maxLen) (E : Int) (hE : MovE xs f t E) :
    Calls Tryz.prog 92 #[.slice a n c, .string f, .string t] w fun e w' => TwoR w.heap.size (movA xs f t E) E e w' ∧ Below w.heap.size w w' := by
  rcases refM_of hE with ⟨h0, hR⟩ | ⟨hR, h04⟩
  · have hr : movA xs f t E = [] := if_neg h0
    rw [hr]
    exact move_bad h f t hf ht E hR h0
  · exact move_good h f t hf ht E hR hE h04

end Go.Proofs.YticiihjkgiookaaGreat
