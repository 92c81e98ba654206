/- Part 25 of the proof: TreeFA, TreeFB, TreeFC, TreeFD. -/
import Derived.Test.YtdilfbfkeiaafaaGreatB15
import Derived.Test.YtdilfbfkeiaafaaGreatB20
import Derived.Test.YtdilfbfkeiaafaaGreatB24
import Derived.Lib.Bytealg
set_option maxRecDepth 100000
set_option maxHeartbeats 8000000
namespace Go.Proofs.YtdilfbfkeiaafaaGreat
open Go.RowKit
theorem cmpString_val (a b : ByteArray) (w : World) :
    Calls Tryz.prog 186 #[.string a, .string b] w fun e w' => e = .returned (.int .i64 (Lib.compareBytes a.data.toList b.data.toList)) ∧ w' = w := by
  go_enter Tryz.func186, Tryz.ntmps186; go_wp2; rw [run_callFunc_extern Tryz.func206 (by kernel_rfl) (by kernel_rfl) (by kernel_rfl) (e := Extern.BytealgCompare.compare) (by kernel_rfl), Lib.run_compareString]
  simp only [Result.andThen]
  rw [Oper.upon_value]
  go_wp2; go_ret; exact ⟨rfl, rfl⟩
theorem compare_val (a b : ByteArray) (w : World) :
    Calls Tryz.prog 165 #[.string a, .string b] w fun e w' => e = .returned (.int .i64 (Lib.compareBytes a.data.toList b.data.toList)) ∧ w' = w := by
  go_enter Tryz.func165, Tryz.ntmps165; go_wp2_with (refine (cmpString_val a b _).mono ?_; rintro e w1 ⟨rfl, rfl⟩)
  go_ret; exact ⟨rfl, rfl⟩
def cmpN (x y : NR) : Int := Lib.compareBytes x.1.path.data.toList y.1.path.data.toList
theorem ordered1_val (x y : NR) (w : World) : Calls Tryz.prog 164 #[ndV x, ndV y] w fun e w' => e = .returned (.int .i64 (cmpN x y)) ∧ ∃ q os', w' = Sort.grow (w.drewN q) os' := by
  obtain ⟨⟨p, d, qu, bs, wr⟩, ⟨a, n, c⟩⟩ := x
  obtain ⟨⟨p2, d2, qu2, bs2, wr2⟩, ⟨a2, n2, c2⟩⟩ := y
  unfold ndV cmpN; simp only
  obtain ⟨r, hr⟩ : ∃ r, Lib.compareBytes p.data.toList p2.data.toList = r := ⟨_, rfl⟩
  have CC : Hid (∀ W, Calls Tryz.prog 165 #[.string p, .string p2] W fun e w' => e = .returned (.int .i64 r) ∧ w' = W) := fun W => by rw [← hr]; exact compare_val p p2 W
  rw [hr]
  clear hr; go_enter Tryz.func164, Tryz.ntmps164; go_wp2_with (refine (CC.out _).mono ?_; rintro e w1 ⟨rfl, rfl⟩)
  go_ret; exact ⟨rfl, 0, _, by rw [Sort.alloc_eq_grow, Sort.alloc_eq_grow, Sort.grow_grow]; rfl⟩
theorem ltOf_cmp (x y : NR) : ltOf cmpN x y = ltB x.1.path y.1.path := by
  unfold ltOf cmpN ltB; rw [cmp_lt, Lib.toList_data, Lib.toList_data]
theorem swoN : Sort.SWO (ltOf cmpN) where
  irrefl x := by rw [ltOf_cmp]; exact ltB_irrefl _
  trans x y z h1 h2 := by rw [ltOf_cmp] at *; exact ltB_trans h1 h2
  ntrans x y z h1 h2 := by rw [ltOf_cmp] at *; exact ltB_ntrans h1 h2
theorem nr_get (ps : List NR) (i : Nat) (hi : i < ps.length) : ps.toArray[i]! = ps[i] := by
  simp [hi]
theorem holds_of_cel {O : Nat → Prop} {w : World} {blk n c : Nat} {ps : List NR} (h : Cel O w 5 (.slice (some ⟨blk, 0, none⟩) n c) n (rowC ndC ps) (some blk)) (hn : ps.length = n) : Sort.HoldsK ndC 5 w blk 0 ps.toArray := by
  obtain ⟨hc1, hc2, _⟩ := h.cap2
  intro t ht
  rw [Sort.size_flatK, List.size_toArray] at ht
  have hd : t / 5 < ps.length := by omega
  have e := rowC_at wideX ps (t / 5) hd (t % 5) (by omega)
  have e2 : t / 5 * 5 + t % 5 = t := by omega
  rw [e2] at e
  have hl : t < (rowC ndC ps).length := by rw [rowC_len wideX]; exact ht
  have hc := h.cell t hl
  refine ⟨?_, ?_⟩
  · rw [Nat.zero_add, hc, Sort.get_flatK _ _ _ _ (by rw [List.size_toArray]; exact ht), nr_get ps _ hd]
    rw [List.getElem?_eq_getElem hl] at e
    have e3 : (ndC ps[t / 5])[t % 5]! = (rowC ndC ps)[t] := by
      rw [List.getElem!_eq_getElem?_getD, ← e]; rfl
    rw [e3]; rfl
  · rw [Nat.zero_add]
    have : n * 5 ≤ c * 5 := Nat.mul_le_mul_right _ hc1
    exact (h.live t (by omega)).2
theorem cel_of_holds {O : Nat → Prop} {w w' : World} {blk n c : Nat} {ps qs : List NR} (h : Cel O w 5 (.slice (some ⟨blk, 0, none⟩) n c) n (rowC ndC ps) (some blk)) (hq : qs.length = n) (hH : Sort.HoldsK ndC 5 w' blk 0 qs.toArray) (hs : w.heap.size ≤ w'.heap.size)
    (hlive : ∀ j, j < c * 5 → (w'.cell? ⟨blk, j, none⟩).isSome = true ∧ w'.frozen? ⟨blk, j, none⟩ = false) : Cel O w' 5 (.slice (some ⟨blk, 0, none⟩) n c) n (rowC ndC qs) (some blk) := by
  obtain ⟨hc1, hc2, _⟩ := h.cap2
  obtain ⟨h3, h2⟩ := h.lt
  refine .row blk c rfl (by rw [rowC_len wideX, hq]) h2 (by omega) hc1 hc2 (fun t ht => ?_) hlive
  rw [rowC_len wideX] at ht
  have hd : t / 5 < qs.length := by omega
  have hc := (hH t (by rw [Sort.size_flatK, List.size_toArray]; exact ht)).1
  rw [Nat.zero_add, Sort.get_flatK _ _ _ _ (by rw [List.size_toArray]; exact ht), nr_get qs _ hd] at hc
  rw [hc]
  have e := rowC_at wideX qs (t / 5) hd (t % 5) (by omega)
  have e2 : t / 5 * 5 + t % 5 = t := by omega
  rw [e2] at e
  have hl : t < (rowC ndC qs).length := by rw [rowC_len wideX]; exact ht
  rw [List.getElem?_eq_getElem hl] at e
  have e3 : (ndC qs[t / 5])[t % 5]! = (rowC ndC qs)[t] := by
    rw [List.getElem!_eq_getElem?_getD, ← e]; rfl
  rw [e3]; rfl
theorem sorted_stay (w : World) (blk m : Nat) (d : Array NR) (os : Array Obj) : Stay (fun k => some blk = some k) w (sortWorldK ndC 5 w blk 0 m d os) := by
  refine ⟨rfl, rfl, rfl, size_sortWorldK_c ndC 5 w blk 0 m d os, fun k hk hne => ?_⟩
  unfold sortWorldK; have hb : k ≠ blk := fun e => hne (by rw [e])
  have h1 : k < (Sort.putRowK ndC 5 (Sort.ahead w m) blk 0 d).heap.size := by rw [Sort.size_putRowK]; exact hk
  rw [Sort.heap_grow_old _ _ h1]
  unfold Sort.putRowK Sort.putRow Sort.mapBlock; simp only [Array.getElem?_modify]
  rw [if_neg (fun e => hb e.symm)]
  rfl
theorem sorted_live (w : World) (blk m j : Nat) (d0 d : Array NR) (os : Array Obj) (hblk : blk < w.heap.size) (hH : Sort.HoldsK ndC 5 w blk 0 d0) (hs : d.size = d0.size) (h : (w.cell? ⟨blk, j, none⟩).isSome = true ∧ w.frozen? ⟨blk, j, none⟩ = false) :
    ((sortWorldK ndC 5 w blk 0 m d os).cell? ⟨blk, j, none⟩).isSome = true ∧ (sortWorldK ndC 5 w blk 0 m d os).frozen? ⟨blk, j, none⟩ = false := by
  have h1 : blk < (Sort.putRowK ndC 5 (Sort.ahead w m) blk 0 d).heap.size := by rw [Sort.size_putRowK]; exact hblk
  constructor
  · by_cases hj : j < d.size * 5
    · have := (holdsK_sortWorldK_c ndC 5 w blk 0 d0 d m os hH hblk hs j (by rw [Sort.size_flatK]; exact hj)).1
      rw [Nat.zero_add] at this
      rw [this]; rfl
    · unfold sortWorldK
      rw [Sort.cell?_grow _ _ _ h1]
      unfold Sort.putRowK; rw [Sort.cell?_putRow_other _ _ _ _ _ _ (.inr (.inr (by rw [Sort.size_flatK]; show 0 + d.size * 5 ≤ j; omega)))]
      exact h.1
  · unfold sortWorldK
    rw [Sort.frozen?_grow _ _ _ h1]
    unfold Sort.putRowK; rw [Sort.frozen?_putRow]
    exact h.2
theorem perm_of_in {d d' : Array NR} (h : Sort.PermIn 0 d.size d d') : d'.toList.Perm d.toList := by
  obtain ⟨h1, _, h3⟩ := h
  have e1 : d'.extract 0 d.size = d' := by rw [← h1]; simp
  have e2 : d.extract 0 d.size = d := by simp
  rw [e1, e2] at h3
  exact h3
theorem sorted_of_in {d' : Array NR} {n : Nat} (hn : d'.size = n) (h : Sort.SortedIn (ltOf cmpN) 0 n d') : (d'.toList.map (·.1)).Pairwise (fun x y => ltB y.path x.path = false) := by
  rw [List.pairwise_iff_getElem]
  intro i j hi hj hij
  rw [List.length_map, Array.length_toList] at hi hj
  have := h i j (Nat.zero_le _) hij (by omega)
  rw [ltOf_cmp] at this
  have e1 : d'[i]! = d'[i] := by simp [hi]
  have e2 : d'[j]! = d'[j] := by simp [hj]
  rw [e1, e2] at this
  simpa using this
theorem ordered_val {base n c : Nat} {a : Option Addr} {xs : NS} {w : World} (h : LX base w a n c xs) (hp : 0 < n) (hn : n ≤ 1000) (ha : Apart xs) :
    Calls Tryz.prog 136 #[.slice a n c] w fun e w' => e = .returned (.slice a n c) ∧ LX base w' a n c (sortN xs) ∧ Stay (fun k => base ≤ k) w w' := by
  obtain ⟨ps, g, h1, h2⟩ := h.ex
  obtain ⟨blk, rfl, rfl⟩ := h2.cel.at2 hp
  have hlen := h2.len
  have hlt := h2.cel.lt.1
  have hsA : ps.toArray.size = n := by simp [hlen]
  have hH := holds_of_cel h2.cel hlen
  have eg : ∀ args w, (callFunc 164 args).run Tryz.prog w = .ok (.enter 164 args) w := enters_of Tryz.func164 (by kernel_rfl) rfl
  have hcmp : CmpLays Tryz.prog 164 #[] ndC 5 cmpN blk 0 ps.toArray.size w := fun _ _ _ _ x y => ordered1_val x y _
  have hcon := AnyQ.slices_SortFunc sortNd 5 Tryz.isAgg35 Tryz.sizeOf35 ndC (fun _ => rfl) (fun x v hv => wideX.one x v hv) cmpN swoN 164 #[] blk 0 c ps.toArray w eg hcmp hH hlt (by rw [List.size_toArray]; omega)
  rw [List.size_toArray, hlen] at hcon
  change Calls Tryz.prog 163 _ _ _ at hcon
  have CC : Hid (Calls Tryz.prog 163 #[.slice (some ⟨blk, 0, none⟩) n c, .func (.func 164) #[] #[]] w fun e w' => e = .returned (.tuple #[]) ∧ LX base w' (some ⟨blk, 0, none⟩) n c (sortN xs) ∧ Stay (fun k => base ≤ k) w w') := hcon.mono fun e w' ⟨he, d', m, os, hP, hS, hw⟩ => by
    have hsz : d'.size = n := by
      have := hP.1; omega
    have hperm : d'.toList.Perm ps := perm_of_in (by rw [List.size_toArray, hlen]; exact hP)
    have hst : Stay (fun k => some blk = some k) w w' := by rw [hw]; exact sorted_stay w blk m d' os
    have hdl : d'.toList.length = n := by rw [Array.length_toList]; exact hsz
    have hH' : Sort.HoldsK ndC 5 w' blk 0 d'.toList.toArray := by
      rw [hw]
      exact holdsK_sortWorldK_c ndC 5 w blk 0 ps.toArray d'.toList.toArray m os hH hlt (by rw [List.size_toArray, List.size_toArray]; omega)
    have hcel := cel_of_holds h2.cel hdl hH' hst.size (fun j hj => by
      rw [hw]
      exact sorted_live w blk m j ps.toArray d' os hlt hH (by omega) (h2.cel.live j hj))
    refine ⟨he, ⟨d'.toList, some blk, ?_, hcel, hdl, fun x hx => ?_, fun x hx => h2.ap x (hperm.subset hx)⟩, hst.mono (fun k hk => by cases hk; exact h2.cel.lt.2)⟩
    · have hpm : (d'.toList.map (·.1)).Perm xs := by rw [← h1]; exact hperm.map _
      exact sortN_is hpm (asc_of (sorted_of_in hsz hS) (ha.perm hpm.symm))
    · exact Stay.free (h2.ok x (hperm.subset hx)) hst (fun k hk e => by
        exact h2.ap x (hperm.subset hx) k e hk)
  clear hcon hcmp hH h h2 eg; go_enter Tryz.func136, Tryz.ntmps136; go_wp2_with (refine CC.out.mono ?_; rintro e w1 ⟨rfl, hX⟩; have HX : Hid _ := hX; clear hX)
  go_ret; exact ⟨rfl, HX.out⟩
theorem refuseAdd_val {a : Option Addr} {n c : Nat} {xs : NS} {w : World} (h : NL w a n xs) (x : NR) (hx : NdOk w x) (E : Int) (hE : AddE xs x.1 E) :
    Calls Tryz.prog 134 #[.slice a n c, ndV x] w fun e w' => e = .returned (.int .i64 E) ∧ Below w.heap.size w w' := by
  have CR : Hid (∀ W u, Below w.heap.size w W → (u = true ↔ Right xs) → Calls Tryz.prog 46 #[.slice a n c] W fun e w' => e = .returned (.bool u) ∧ Below W.heap.size W w') := fun W u hb hu => right_val (h.below hb) u hu
  have CT : Hid (∀ W u, Below w.heap.size w W → fitsB x.1 = u → Calls Tryz.prog 89 #[ndV x] W fun e w' => e = .returned (.bool u) ∧ Below W.heap.size W w') := fun W u hb hu => fits_val x u W (hx.below hb) hu
  have CF : Hid (∀ W I, Below w.heap.size w W → findI xs x.1.path = I → Calls Tryz.prog 87 #[.slice a n c, .string x.1.path] W fun e w' => e = .returned (.int .i64 I) ∧ Below W.heap.size W w') := fun W I hb hI => find_val (h.below hb) x.1.path I hI
  have CP : Hid (∀ W F, Below w.heap.size w W → dirE xs (parD x.1.path) = F → Calls Tryz.prog 90 #[.slice a n c, .string x.1.path] W fun e w' => e = .returned (.int .i64 F) ∧ Below W.heap.size W w') := fun W F hb hF => refuseParent_val (h.below hb) x.1.path hx.small F hF
  have HLEN : Hid (xs.length = n) := by obtain ⟨_, _, _, _, k2, _⟩ := h.ex; exact k2
  have hlid := h.lid
  unfold maxLen at hlid; obtain ⟨⟨p, d, q, bs, wr⟩, ⟨sa, sn, sc⟩⟩ := x
  have e0 := root_eq p
  have hst := run_store_str
  unfold ndV at *
  simp only at CF CP CT
  clear h hx; cases hE with
  | arg hn =>
    by_cases h1 : Right xs
    · have H1 : Hid (true = true ↔ Right xs) := ⟨fun _ => h1, fun _ => rfl⟩
      cases h2 : fitsB ⟨p, d, q, bs, wr⟩ with
      | false =>
        have H2 : Hid _ := h2
        clear h1 h2 hn e0; go_enter Tryz.func134, Tryz.ntmps134; go_wp2_with (first
          | (go_at_call 46; refine (CR.out _ true (bel_al _ _) H1.out).mono ?_; rintro e w1 ⟨rfl, c1⟩; have cc : Hid _ := bel_tr (bel_al _ _) c1; have y0 := bel_cell c1 (World.cell?_alloc_new w _ _ 0); have y1 := bel_cell c1 (World.cell?_alloc_new w _ _ 1); have y2 := bel_cell c1 (World.cell?_alloc_new w _ _ 2); have y3 := bel_cell c1 (World.cell?_alloc_new w _ _ 3); have y4 := bel_cell c1 (World.cell?_alloc_new w _ _ 4); clear c1)
          | (go_at_call 89; refine (CT.out _ false cc.out H2.out).mono ?_; rintro e w2 ⟨rfl, c2⟩; have cc2 : Hid _ := bel_tr cc.out c2; have z0 := bel_cell c2 y0; have z1 := bel_cell c2 y1; have z2 := bel_cell c2 y2; have z3 := bel_cell c2 y3; have z4 := bel_cell c2 y4; clear c2))
        go_ret; exact ⟨rfl, cc2.out⟩
      | true =>
        have H2 : Hid _ := h2
        have h3 : p = rootP := by
          by_cases h3 : p = rootP
          · exact h3
          · exact absurd ⟨h1, h2, h3⟩ hn
        rw [decide_eq_true h3] at e0
        clear h1 h2 h3 hn; go_enter Tryz.func134, Tryz.ntmps134; go_wp2_with (first
          | (go_at_call 46; refine (CR.out _ true (bel_al _ _) H1.out).mono ?_; rintro e w1 ⟨rfl, c1⟩; have cc : Hid _ := bel_tr (bel_al _ _) c1; have y0 := bel_cell c1 (World.cell?_alloc_new w _ _ 0); have y1 := bel_cell c1 (World.cell?_alloc_new w _ _ 1); have y2 := bel_cell c1 (World.cell?_alloc_new w _ _ 2); have y3 := bel_cell c1 (World.cell?_alloc_new w _ _ 3); have y4 := bel_cell c1 (World.cell?_alloc_new w _ _ 4); clear c1)
          | (go_at_call 89; refine (CT.out _ true cc.out H2.out).mono ?_; rintro e w2 ⟨rfl, c2⟩; have cc2 : Hid _ := bel_tr cc.out c2; have z0 := bel_cell c2 y0; have z1 := bel_cell c2 y1; have z2 := bel_cell c2 y2; have z3 := bel_cell c2 y3; have z4 := bel_cell c2 y4; clear c2))
        go_ret; exact ⟨rfl, cc2.out⟩
    · have H1 : Hid (false = true ↔ Right xs) := ⟨fun e => (by cases e), fun e => absurd e h1⟩
      clear h1 hn e0; go_enter Tryz.func134, Tryz.ntmps134; go_wp2_with (first
        | (go_at_call 46; refine (CR.out _ false (bel_al _ _) H1.out).mono ?_; rintro e w1 ⟨rfl, c1⟩; have cc : Hid _ := bel_tr (bel_al _ _) c1; have y0 := bel_cell c1 (World.cell?_alloc_new w _ _ 0); have y1 := bel_cell c1 (World.cell?_alloc_new w _ _ 1); have y2 := bel_cell c1 (World.cell?_alloc_new w _ _ 2); have y3 := bel_cell c1 (World.cell?_alloc_new w _ _ 3); have y4 := bel_cell c1 (World.cell?_alloc_new w _ _ 4); clear c1))
      go_ret; exact ⟨rfl, cc.out⟩
  | exist h1 h2 h3 h4 =>
    have H1 : Hid (true = true ↔ Right xs) := ⟨fun _ => h1, fun _ => rfl⟩
    have H2 : Hid _ := h2
    obtain ⟨i, h5, h6⟩ := find_pos h4
    have H4 : Hid (findI xs p = (i : Int)) := h5
    have h3' : p ≠ rootP := h3
    rw [decide_eq_false h3'] at e0
    clear h1 h2 h3 h4 h5 h6 h3'; go_enter Tryz.func134, Tryz.ntmps134; go_wp2_with (first
      | (go_at_call 46; refine (CR.out _ true (bel_al _ _) H1.out).mono ?_; rintro e w1 ⟨rfl, c1⟩; have cc : Hid _ := bel_tr (bel_al _ _) c1; have y0 := bel_cell c1 (World.cell?_alloc_new w _ _ 0); have y1 := bel_cell c1 (World.cell?_alloc_new w _ _ 1); have y2 := bel_cell c1 (World.cell?_alloc_new w _ _ 2); have y3 := bel_cell c1 (World.cell?_alloc_new w _ _ 3); have y4 := bel_cell c1 (World.cell?_alloc_new w _ _ 4); clear c1)
      | (go_at_call 89; refine (CT.out _ true cc.out H2.out).mono ?_; rintro e w2 ⟨rfl, c2⟩; have cc2 : Hid _ := bel_tr cc.out c2; have z0 := bel_cell c2 y0; have z1 := bel_cell c2 y1; have z2 := bel_cell c2 y2; have z3 := bel_cell c2 y3; have z4 := bel_cell c2 y4; clear c2)
      | (go_at_call 87; refine (CF.out _ _ cc2.out H4.out).mono ?_; rintro e w3 ⟨rfl, c3⟩; have cc3 : Hid _ := bel_tr cc2.out c3; have v0 := bel_cell c3 z0; have v1 := bel_cell c3 z1; have v2 := bel_cell c3 z2; have v3 := bel_cell c3 z3; have v4 := bel_cell c3 z4; clear c3))
    go_ret; exact ⟨rfl, cc3.out⟩
  | par e h1 h2 h3 h4 h5 h6 =>
    have H1 : Hid (true = true ↔ Right xs) := ⟨fun _ => h1, fun _ => rfl⟩
    have H2 : Hid _ := h2
    have H4 : Hid (findI xs p = -1) := find_neg h4
    have H5 : Hid (dirE xs (parD p) = E) := h5
    have h6b : (E != 0) = true := by simpa using h6
    have h3' : p ≠ rootP := h3
    rw [decide_eq_false h3'] at e0
    clear h1 h2 h3 h4 h5 h6 h3'; go_enter Tryz.func134, Tryz.ntmps134; go_wp2_with (first
      | (go_at_call 46; refine (CR.out _ true (bel_al _ _) H1.out).mono ?_; rintro e w1 ⟨rfl, c1⟩; have cc : Hid _ := bel_tr (bel_al _ _) c1; have y0 := bel_cell c1 (World.cell?_alloc_new w _ _ 0); have y1 := bel_cell c1 (World.cell?_alloc_new w _ _ 1); have y2 := bel_cell c1 (World.cell?_alloc_new w _ _ 2); have y3 := bel_cell c1 (World.cell?_alloc_new w _ _ 3); have y4 := bel_cell c1 (World.cell?_alloc_new w _ _ 4); clear c1)
      | (go_at_call 89; refine (CT.out _ true cc.out H2.out).mono ?_; rintro e w2 ⟨rfl, c2⟩; have cc2 : Hid _ := bel_tr cc.out c2; have z0 := bel_cell c2 y0; have z1 := bel_cell c2 y1; have z2 := bel_cell c2 y2; have z3 := bel_cell c2 y3; have z4 := bel_cell c2 y4; clear c2)
      | (go_at_call 87; refine (CF.out _ _ cc2.out H4.out).mono ?_; rintro e w3 ⟨rfl, c3⟩; have cc3 : Hid _ := bel_tr cc2.out c3; have v0 := bel_cell c3 z0; have v1 := bel_cell c3 z1; have v2 := bel_cell c3 z2; have v3 := bel_cell c3 z3; have v4 := bel_cell c3 z4; clear c3)
      | (go_at_call 90; refine (CP.out _ _ cc3.out H5.out).mono ?_; rintro e w4 ⟨rfl, c4⟩; have cc4 : Hid _ := bel_tr cc3.out c4; clear c4))
    go_ret; exact ⟨rfl, cc4.out⟩
  | long h1 h2 h3 h4 h5 h6 =>
    have H1 : Hid (true = true ↔ Right xs) := ⟨fun _ => h1, fun _ => rfl⟩
    have H2 : Hid _ := h2
    have H4 : Hid (findI xs p = -1) := find_neg h4
    have H5 : Hid (dirE xs (parD p) = 0) := h5
    have h6b : decide ((60 : Int) ≤ (n : Int)) = true := decide_eq_true (by rw [HLEN.out] at h6; omega)
    have h3' : p ≠ rootP := h3
    rw [decide_eq_false h3'] at e0
    clear h1 h2 h3 h4 h5 h6 h3'; go_enter Tryz.func134, Tryz.ntmps134; go_wp2_with (first
      | (go_at_call 46; refine (CR.out _ true (bel_al _ _) H1.out).mono ?_; rintro e w1 ⟨rfl, c1⟩; have cc : Hid _ := bel_tr (bel_al _ _) c1; have y0 := bel_cell c1 (World.cell?_alloc_new w _ _ 0); have y1 := bel_cell c1 (World.cell?_alloc_new w _ _ 1); have y2 := bel_cell c1 (World.cell?_alloc_new w _ _ 2); have y3 := bel_cell c1 (World.cell?_alloc_new w _ _ 3); have y4 := bel_cell c1 (World.cell?_alloc_new w _ _ 4); clear c1)
      | (go_at_call 89; refine (CT.out _ true cc.out H2.out).mono ?_; rintro e w2 ⟨rfl, c2⟩; have cc2 : Hid _ := bel_tr cc.out c2; have z0 := bel_cell c2 y0; have z1 := bel_cell c2 y1; have z2 := bel_cell c2 y2; have z3 := bel_cell c2 y3; have z4 := bel_cell c2 y4; clear c2)
      | (go_at_call 87; refine (CF.out _ _ cc2.out H4.out).mono ?_; rintro e w3 ⟨rfl, c3⟩; have cc3 : Hid _ := bel_tr cc2.out c3; have v0 := bel_cell c3 z0; have v1 := bel_cell c3 z1; have v2 := bel_cell c3 z2; have v3 := bel_cell c3 z3; have v4 := bel_cell c3 z4; clear c3)
      | (go_at_call 90; refine (CP.out _ _ cc3.out H5.out).mono ?_; rintro e w4 ⟨rfl, c4⟩; have cc4 : Hid _ := bel_tr cc3.out c4; clear c4))
    go_ret; exact ⟨rfl, cc4.out⟩
  | ok h1 h2 h3 h4 h5 h6 =>
    have H1 : Hid (true = true ↔ Right xs) := ⟨fun _ => h1, fun _ => rfl⟩
    have H2 : Hid _ := h2
    have H4 : Hid (findI xs p = -1) := find_neg h4
    have H5 : Hid (dirE xs (parD p) = 0) := h5
    have h6b : decide ((60 : Int) ≤ (n : Int)) = false := decide_eq_false (by rw [HLEN.out] at h6; omega)
    have h3' : p ≠ rootP := h3
    rw [decide_eq_false h3'] at e0
    clear h1 h2 h3 h4 h5 h6 h3'; go_enter Tryz.func134, Tryz.ntmps134; go_wp2_with (first
      | (go_at_call 46; refine (CR.out _ true (bel_al _ _) H1.out).mono ?_; rintro e w1 ⟨rfl, c1⟩; have cc : Hid _ := bel_tr (bel_al _ _) c1; have y0 := bel_cell c1 (World.cell?_alloc_new w _ _ 0); have y1 := bel_cell c1 (World.cell?_alloc_new w _ _ 1); have y2 := bel_cell c1 (World.cell?_alloc_new w _ _ 2); have y3 := bel_cell c1 (World.cell?_alloc_new w _ _ 3); have y4 := bel_cell c1 (World.cell?_alloc_new w _ _ 4); clear c1)
      | (go_at_call 89; refine (CT.out _ true cc.out H2.out).mono ?_; rintro e w2 ⟨rfl, c2⟩; have cc2 : Hid _ := bel_tr cc.out c2; have z0 := bel_cell c2 y0; have z1 := bel_cell c2 y1; have z2 := bel_cell c2 y2; have z3 := bel_cell c2 y3; have z4 := bel_cell c2 y4; clear c2)
      | (go_at_call 87; refine (CF.out _ _ cc2.out H4.out).mono ?_; rintro e w3 ⟨rfl, c3⟩; have cc3 : Hid _ := bel_tr cc2.out c3; have v0 := bel_cell c3 z0; have v1 := bel_cell c3 z1; have v2 := bel_cell c3 z2; have v3 := bel_cell c3 z3; have v4 := bel_cell c3 z4; clear c3)
      | (go_at_call 90; refine (CP.out _ _ cc3.out H5.out).mono ?_; rintro e w4 ⟨rfl, c4⟩; have cc4 : Hid _ := bel_tr cc3.out c4; clear c4))
    go_ret; exact ⟨rfl, cc4.out⟩
theorem Lot.push {base : Nat} {w2 w3 w5 : World} {fa : Option Addr} {fn fc : Nat} {qs : List NR} {g : Option Nat} (hL : Lot base w2 fa fn fc qs g) (hB : base ≤ w2.heap.size) {x : Nd} {s : RS} (hF : Free w2.heap.size w3 (x, s)) (B2 : Below w2.heap.size w2 w3) {o : Obj} {a2 : Option Addr} {c2 : Nat} {g5 : Option Nat}
    (hC : Cel (Grow (fun k => base ≤ k) (w3.alloc o) w5) w5 5 (.slice a2 (fn + 1) c2) (fn + 1) (rowC ndC qs ++ rowC ndC [(x, s)]) g5) (hS : Stay (fun k => g = some k) (w3.alloc o) w5) (hg : ∀ k, g5 = some k → g = some k ∨ (w3.alloc o).heap.size ≤ k) : Lot base w5 a2 (fn + 1) c2 (qs ++ [(x, s)]) g5 ∧ Below base w2 w5 := by
  have B3 : Below w2.heap.size w2 (w3.alloc o) := bel_tr B2 (bel_al _ _)
  have z2 := B3.size
  have hge : ∀ k, g = some k → k < w2.heap.size ∧ base ≤ k := fun k hk => by have := hL.cel; rw [hk] at this; exact this.lt
  have hF2 := hF.below (bel_al w3 o)
  refine ⟨(hL.below B3).app (qs := [(x, s)]) (fun y hy => ?_) (fun y hy k hk e => ?_) rfl hC hS hg (by omega), ?_⟩
  · rw [List.mem_singleton.1 hy]; exact hF2.mono hB
  · rw [List.mem_singleton.1 hy] at e
    have := hF2.blk_ge k e
    have := (hge k hk).1
    omega
  · exact (B3.mono hB).trans (hS.below (by omega) (fun k hk => (hge k hk).2))
theorem apart_snoc {xs : NS} {x : Nd} (h : Apart xs) (hx : at? xs x.path = none) : Apart (xs ++ [x]) := by
  unfold Apart; rw [List.pairwise_append]
  refine ⟨h, List.pairwise_singleton _ _, fun y hy z hz => ?_⟩
  rw [List.mem_singleton.1 hz]
  exact at_none hx y hy
def addL (xs : NS) (x : Nd) (E : Int) : NS := if E = 0 then sortN (xs ++ [x]) else []
theorem add_val {a : Option Addr} {n c : Nat} {xs : NS} {w : World} (h : NL w a n xs) (x : NR) (hx : NdOk w x) (E : Int) (hE : AddE xs x.1 E) :
    Calls Tryz.prog 97 #[.slice a n c, ndV x] w fun e w' => TwoR w.heap.size (addL xs x.1 E) E e w' ∧ Below w.heap.size w w' := by
  have CA : Hid (∀ W, Below w.heap.size w W → Calls Tryz.prog 134 #[.slice a n c, ndV x] W fun e w' => e = .returned (.int .i64 E) ∧ Below W.heap.size W w') := fun W hb => refuseAdd_val (h.below hb) x (hx.below hb) E hE
  have HLEN : Hid (xs.length = n) := by obtain ⟨_, _, _, _, k2, _⟩ := h.ex; exact k2
  have hst := run_store_str
  by_cases h0 : E = 0
  · subst h0
    have hr : addL xs x.1 0 = sortN (xs ++ [x.1]) := rfl
    rw [hr]
    obtain ⟨ti, hi1, hi2, hi3, hi4⟩ := ndRow
    cases hE with
    | par e h1 h2 h3 h4 h5 h6 => exact absurd rfl h6
    | ok h1 h2 h3 h4 h5 h6 =>
      have hn60 : n < 60 := by rw [HLEN.out] at h6; exact h6
      have HAP : Hid (Apart (xs ++ [x.1])) := apart_snoc (right_asc h1).apart h4
      have CC : Hid (∀ W, Below w.heap.size w W → Calls Tryz.prog 103 #[.slice a n c, .func (.func 135) #[] #[]] W fun e w' => ListR W.heap.size xs n e w' ∧ Below W.heap.size W w') := fun W hb =>
        chosen_val (h.below hb) (by omega) h1.few8 135 #[] (fun _ => true) (enters_of Tryz.func135 (by kernel_rfl) rfl) (fun W2 y hb2 hy => by simpa using add1_val W2 y) xs (List.filter_eq_self.2 (fun _ _ => rfl)) n HLEN.out
      have h8 : x.2.n ≤ 8 := by rw [← hx.bs.len]; exact fits_few h2
      have CY : Hid (∀ W, Below w.heap.size w W → Calls Tryz.prog 137 #[ndV x] W fun e w' => CopyR W.heap.size x.1 e w' ∧ Below W.heap.size W w') := fun W hb => copied_val x W (hx.below hb) (by omega)
      obtain ⟨⟨p, d, q, bs, wr⟩, ⟨sa, sn, sc⟩⟩ := x
      unfold ndV at *
      simp only at CA CY HAP ⊢
      clear h hx h1 h2 h3 h4 h5 h6 h8 hr; go_enter Tryz.func97, Tryz.ntmps97; go_wp2_with (first
        | (go_at_call 134; refine (CA.out _ (bel_al _ _)).mono ?_; rintro e w1 ⟨rfl, c1⟩; have cc : Hid _ := bel_tr (bel_al _ _) c1; have y0 := bel_cell c1 (World.cell?_alloc_new w _ _ 0); have y1 := bel_cell c1 (World.cell?_alloc_new w _ _ 1); have y2 := bel_cell c1 (World.cell?_alloc_new w _ _ 2); have y3 := bel_cell c1 (World.cell?_alloc_new w _ _ 3); have y4 := bel_cell c1 (World.cell?_alloc_new w _ _ 4); clear c1)
        | (go_at_call 103; refine (CC.out _ cc.out).mono ?_; rintro e w2 ⟨⟨a2, c2, rfl, ⟨qs, g, hq, hL⟩⟩, d2⟩; have cc2 : Hid _ := bel_tr cc.out d2; have HQ : Hid _ := hq; have HL : Hid (Lot w1.heap.size w2 a2 n c2 qs g) := hL; have HB2 : Hid _ := d2; have z0 := bel_cell d2 y0; have z1 := bel_cell d2 y1; have z2 := bel_cell d2 y2; have z3 := bel_cell d2 y3; have z4 := bel_cell d2 y4; clear d2 hq hL)
        | (go_at_call 137; refine (CY.out _ cc2.out).mono ?_; rintro e w3 ⟨⟨s, rfl, hF⟩, c3⟩; have HF : Hid (Free w2.heap.size w3 (⟨p, d, q, bs, wr⟩, s)) := hF; have B3 : Hid (Below w2.heap.size w2 w3) := c3; clear hF c3; unfold ndV; simp only)
        | (at_builtin; refine wpList_append_cel _ rfl _ _ 24 24 rfl 35 ti _ 5 64 Tryz.underlying24 hi1 hi2 hi3 hi4 rfl (O := fun k => w1.heap.size ≤ k) _ n _ g rfl ((HL.out.below (bel_tr B3.out (bel_al _ _))).cel) _ 1 (rowC ndC [(⟨p, d, q, bs, wr⟩, s)]) rfl (src_new5 w3 (⟨p, d, q, bs, wr⟩, s)) (by unfold maxLen; omega) (by omega) ?_; intro a5 c5 w5 g5 hC5 hS5 hf5; have HX : Hid (LX w1.heap.size w5 a5 (n + 1) c5 (xs ++ [⟨p, d, q, bs, wr⟩]) ∧ Below w1.heap.size w2 w5) := ⟨⟨qs ++ [(⟨p, d, q, bs, wr⟩, s)], g5, by rw [List.map_append, HQ.out]; rfl, (HL.out.push HB2.out.size HF.out B3.out hC5 hS5 hf5).1⟩, (HL.out.push HB2.out.size HF.out B3.out hC5 hS5 hf5).2⟩; clear hC5 hS5 hf5)
        | (go_at_call 136; refine (ordered_val HX.out.1 (by omega) (by omega) HAP.out).mono ?_; rintro e w6 ⟨rfl, hX6, hS6⟩; have HX6 : Hid (LX w1.heap.size w6 a5 (n + 1) c5 (sortN (xs ++ [⟨p, d, q, bs, wr⟩]))) := hX6; have HS6 : Hid (Stay (fun k => w1.heap.size ≤ k) w5 w6) := hS6; clear hX6 hS6))
      go_ret2; have z1 := cc.out.size
      refine ⟨⟨a5, n + 1, c5, rfl, HX6.out.mono z1⟩, ?_⟩
      have z5 := HX.out.2.size
      have z2 := HB2.out.size
      exact (cc2.out.trans (HX.out.2.mono z1)).trans (HS6.out.below (by omega) (fun k hk => Nat.le_trans z1 hk))
  · have hr : addL xs x.1 E = [] := if_neg h0
    rw [hr]
    have h0b : (E != 0) = true := by simpa using h0
    obtain ⟨⟨p, d, q, bs, wr⟩, ⟨sa, sn, sc⟩⟩ := x
    unfold ndV at *
    clear h hx hE h0 hr; go_enter Tryz.func97, Tryz.ntmps97; go_wp2_with (go_at_call 134; refine (CA.out _ (bel_al _ _)).mono ?_; rintro e w1 ⟨rfl, c1⟩; have cc : Hid _ := bel_tr (bel_al _ _) c1; clear c1)
    go_ret2; exact ⟨TwoR.no _ _ rfl, cc.out⟩
inductive RefM (xs : NS) (f t : ByteArray) : Int → Prop
  | arg : ¬ (Right xs ∧ pathB f = true ∧ f ≠ rootP ∧ pathB t = true ∧ t ≠ rootP ∧ underB f t = false) → RefM xs f t 1
  | none : Right xs → pathB f = true → f ≠ rootP → pathB t = true → t ≠ rootP → underB f t = false → at? xs f = none → RefM xs f t 5
  | par (e : Int) : Right xs → pathB f = true → f ≠ rootP → pathB t = true → t ≠ rootP → underB f t = false → at? xs f ≠ none → dirE xs (parD t) = e → e ≠ 0 → RefM xs f t e
  | exist : Right xs → pathB f = true → f ≠ rootP → pathB t = true → t ≠ rootP → underB f t = false → at? xs f ≠ none → dirE xs (parD t) = 0 → at? xs t ≠ none → (isDir xs f || isDir xs t) = true → RefM xs f t 6
  | ok : Right xs → pathB f = true → f ≠ rootP → pathB t = true → t ≠ rootP → underB f t = false → at? xs f ≠ none → dirE xs (parD t) = 0 → (at? xs t ≠ none → (isDir xs f || isDir xs t) = false) → RefM xs f t 0
theorem isDir_at {xs : NS} {p : ByteArray} {i : Nat} (h : at? xs p = some i) (hi : i < xs.length) : isDir xs p = xs[i].dir := by
  unfold isDir dirE; rw [h]
  simp only [List.getElem?_eq_getElem hi, Option.map_some, Option.getD_some]
  cases xs[i].dir <;> simp
theorem refuseMove_val {a : Option Addr} {n c : Nat} {xs : NS} {w : World} (h : NL w a n xs) (f t : ByteArray) (hf : f.size ≤ maxLen) (ht : t.size ≤ maxLen) (E : Int) (hE : RefM xs f t E) :
    Calls Tryz.prog 142 #[.slice a n c, .string f, .string t] w fun e w' => e = .returned (.int .i64 E) ∧ Below w.heap.size w w' := by
  have CR : Hid (∀ W u, Below w.heap.size w W → (u = true ↔ Right xs) → Calls Tryz.prog 46 #[.slice a n c] W fun e w' => e = .returned (.bool u) ∧ Below W.heap.size W w') := fun W u hb hu => right_val (h.below hb) u hu
  have CF : Hid (∀ W p I, Below w.heap.size w W → findI xs p = I → Calls Tryz.prog 87 #[.slice a n c, .string p] W fun e w' => e = .returned (.int .i64 I) ∧ Below W.heap.size W w') := fun W p I hb hI => find_val (h.below hb) p I hI
  have CP : Hid (∀ W F, Below w.heap.size w W → dirE xs (parD t) = F → Calls Tryz.prog 90 #[.slice a n c, .string t] W fun e w' => e = .returned (.int .i64 F) ∧ Below W.heap.size W w') := fun W F hb hF => refuseParent_val (h.below hb) t ht F hF
  have HLEN : Hid (xs.length = n) := by obtain ⟨_, _, _, _, k2, _⟩ := h.ex; exact k2
  have hlid := h.lid
  unfold maxLen at hlid; have HF : Hid (f.size ≤ maxLen) := hf
  have HT : Hid (t.size ≤ maxLen) := ht
  have HNL : Hid (NL w a n xs) := h
  have ef := root_eq f
  have et := root_eq t
  clear h hf ht; cases hE with
  | arg hn =>
    by_cases h1 : Right xs
    · have H1 : Hid (true = true ↔ Right xs) := ⟨fun _ => h1, fun _ => rfl⟩
      cases h2 : pathB f with
      | false =>
        have H2 : Hid _ := h2
        clear h1 h2 hn ef et; go_enter Tryz.func142, Tryz.ntmps142; go_wp2_with (first
          | (go_at_call 46; refine (CR.out _ true (Below.refl _ _) H1.out).mono ?_; rintro e w1 ⟨rfl, c1⟩; have cc1 : Hid _ := c1; clear c1)
          | (go_at_call_of 102 (Value.string f); refine (isPath_val f false _ HF.out H2.out).mono ?_; rintro e w2 ⟨rfl, c2⟩; have cc2 : Hid _ := bel_tr cc1.out c2; clear c2))
        go_ret; exact ⟨rfl, cc2.out⟩
      | true =>
        have H2 : Hid _ := h2
        by_cases h3 : f = rootP
        · rw [decide_eq_true h3] at ef
          clear h1 h2 h3 hn et; go_enter Tryz.func142, Tryz.ntmps142; go_wp2_with (first
            | (go_at_call 46; refine (CR.out _ true (Below.refl _ _) H1.out).mono ?_; rintro e w1 ⟨rfl, c1⟩; have cc1 : Hid _ := c1; clear c1)
            | (go_at_call_of 102 (Value.string f); refine (isPath_val f true _ HF.out H2.out).mono ?_; rintro e w2 ⟨rfl, c2⟩; have cc2 : Hid _ := bel_tr cc1.out c2; clear c2))
          go_ret; exact ⟨rfl, cc2.out⟩
        · rw [decide_eq_false h3] at ef
          cases h4 : pathB t with
          | false =>
            have H4 : Hid _ := h4
            clear h1 h2 h3 h4 hn et; go_enter Tryz.func142, Tryz.ntmps142; go_wp2_with (first
              | (go_at_call 46; refine (CR.out _ true (Below.refl _ _) H1.out).mono ?_; rintro e w1 ⟨rfl, c1⟩; have cc1 : Hid _ := c1; clear c1)
              | (go_at_call_of 102 (Value.string f); refine (isPath_val f true _ HF.out H2.out).mono ?_; rintro e w2 ⟨rfl, c2⟩; have cc2 : Hid _ := bel_tr cc1.out c2; clear c2)
              | (go_at_call_of 102 (Value.string t); refine (isPath_val t false _ HT.out H4.out).mono ?_; rintro e w3 ⟨rfl, c3⟩; have cc3 : Hid _ := bel_tr cc2.out c3; clear c3))
            go_ret; exact ⟨rfl, cc3.out⟩
          | true =>
            have H4 : Hid _ := h4
            by_cases h5 : t = rootP
            · rw [decide_eq_true h5] at et
              clear h1 h2 h3 h4 h5 hn; go_enter Tryz.func142, Tryz.ntmps142; go_wp2_with (first
                | (go_at_call 46; refine (CR.out _ true (Below.refl _ _) H1.out).mono ?_; rintro e w1 ⟨rfl, c1⟩; have cc1 : Hid _ := c1; clear c1)
                | (go_at_call_of 102 (Value.string f); refine (isPath_val f true _ HF.out H2.out).mono ?_; rintro e w2 ⟨rfl, c2⟩; have cc2 : Hid _ := bel_tr cc1.out c2; clear c2)
                | (go_at_call_of 102 (Value.string t); refine (isPath_val t true _ HT.out H4.out).mono ?_; rintro e w3 ⟨rfl, c3⟩; have cc3 : Hid _ := bel_tr cc2.out c3; clear c3))
              go_ret; exact ⟨rfl, cc3.out⟩
            · rw [decide_eq_false h5] at et
              have h6 : underB f t = true := by
                cases h6 : underB f t with
                | true => rfl
                | false => exact absurd ⟨h1, h2, h3, h4, h5, h6⟩ hn
              have H6 : Hid _ := h6
              clear h1 h2 h3 h4 h5 h6 hn; go_enter Tryz.func142, Tryz.ntmps142; go_wp2_with (first
                | (go_at_call 46; refine (CR.out _ true (Below.refl _ _) H1.out).mono ?_; rintro e w1 ⟨rfl, c1⟩; have cc1 : Hid _ := c1; clear c1)
                | (go_at_call_of 102 (Value.string f); refine (isPath_val f true _ HF.out H2.out).mono ?_; rintro e w2 ⟨rfl, c2⟩; have cc2 : Hid _ := bel_tr cc1.out c2; clear c2)
                | (go_at_call_of 102 (Value.string t); refine (isPath_val t true _ HT.out H4.out).mono ?_; rintro e w3 ⟨rfl, c3⟩; have cc3 : Hid _ := bel_tr cc2.out c3; clear c3)
                | (go_at_call 105; refine (under_val f t true _ HF.out HT.out H6.out).mono ?_; rintro e w4 ⟨rfl, c4⟩; have cc4 : Hid _ := bel_tr cc3.out c4; clear c4))
              go_ret; exact ⟨rfl, cc4.out⟩
    · have H1 : Hid (false = true ↔ Right xs) := ⟨fun e => (by cases e), fun e => absurd e h1⟩
      clear h1 hn ef et; go_enter Tryz.func142, Tryz.ntmps142; go_wp2_with (first
        | (go_at_call 46; refine (CR.out _ false (Below.refl _ _) H1.out).mono ?_; rintro e w1 ⟨rfl, c1⟩; have cc1 : Hid _ := c1; clear c1))
      go_ret; exact ⟨rfl, cc1.out⟩
  | none h1 h2 h3 h4 h5 h6 h7 =>
    have H1 : Hid (true = true ↔ Right xs) := ⟨fun _ => h1, fun _ => rfl⟩
    have H2 : Hid _ := h2
    have H4 : Hid _ := h4
    have H6 : Hid _ := h6
    rw [decide_eq_false h3] at ef
    rw [decide_eq_false h5] at et
    have H7 : Hid (findI xs f = -1) := find_neg h7
    clear h1 h2 h3 h4 h5 h6 h7; go_enter Tryz.func142, Tryz.ntmps142; go_wp2_with (first
      | (go_at_call 46; refine (CR.out _ true (Below.refl _ _) H1.out).mono ?_; rintro e w1 ⟨rfl, c1⟩; have cc1 : Hid _ := c1; clear c1)
      | (go_at_call_of 102 (Value.string f); refine (isPath_val f true _ HF.out H2.out).mono ?_; rintro e w2 ⟨rfl, c2⟩; have cc2 : Hid _ := bel_tr cc1.out c2; clear c2)
      | (go_at_call_of 102 (Value.string t); refine (isPath_val t true _ HT.out H4.out).mono ?_; rintro e w3 ⟨rfl, c3⟩; have cc3 : Hid _ := bel_tr cc2.out c3; clear c3)
      | (go_at_call 105; refine (under_val f t false _ HF.out HT.out H6.out).mono ?_; rintro e w4 ⟨rfl, c4⟩; have cc4 : Hid _ := bel_tr cc3.out c4; clear c4)
      | (go_at_call_of 87 (Value.string f); refine (CF.out _ f _ cc4.out H7.out).mono ?_; rintro e w5 ⟨rfl, c5⟩; have cc5 : Hid _ := bel_tr cc4.out c5; clear c5))
    go_ret; exact ⟨rfl, cc5.out⟩
  | par e h1 h2 h3 h4 h5 h6 h7 h8 h9 =>
    have H1 : Hid (true = true ↔ Right xs) := ⟨fun _ => h1, fun _ => rfl⟩
    have H2 : Hid _ := h2
    have H4 : Hid _ := h4
    have H6 : Hid _ := h6
    rw [decide_eq_false h3] at ef
    rw [decide_eq_false h5] at et
    obtain ⟨i, h7a, h7b⟩ := find_pos h7
    have H7 : Hid (findI xs f = (i : Int)) := h7a
    have H8 : Hid (dirE xs (parD t) = E) := h8
    have h9b : (E != 0) = true := by simpa using h9
    clear h1 h2 h3 h4 h5 h6 h7 h7a h7b h8 h9; go_enter Tryz.func142, Tryz.ntmps142; go_wp2_with (first
      | (go_at_call 46; refine (CR.out _ true (Below.refl _ _) H1.out).mono ?_; rintro e w1 ⟨rfl, c1⟩; have cc1 : Hid _ := c1; clear c1)
      | (go_at_call_of 102 (Value.string f); refine (isPath_val f true _ HF.out H2.out).mono ?_; rintro e w2 ⟨rfl, c2⟩; have cc2 : Hid _ := bel_tr cc1.out c2; clear c2)
      | (go_at_call_of 102 (Value.string t); refine (isPath_val t true _ HT.out H4.out).mono ?_; rintro e w3 ⟨rfl, c3⟩; have cc3 : Hid _ := bel_tr cc2.out c3; clear c3)
      | (go_at_call 105; refine (under_val f t false _ HF.out HT.out H6.out).mono ?_; rintro e w4 ⟨rfl, c4⟩; have cc4 : Hid _ := bel_tr cc3.out c4; clear c4)
      | (go_at_call_of 87 (Value.string f); refine (CF.out _ f _ cc4.out H7.out).mono ?_; rintro e w5 ⟨rfl, c5⟩; have cc5 : Hid _ := bel_tr cc4.out c5; clear c5)
      | (go_at_call 90; refine (CP.out _ _ cc5.out H8.out).mono ?_; rintro e w6 ⟨rfl, c6⟩; have cc6 : Hid _ := bel_tr cc5.out c6; clear c6))
    go_ret; exact ⟨rfl, cc6.out⟩
  | exist h1 h2 h3 h4 h5 h6 h7 h8 h9 h10 =>
    have H1 : Hid (true = true ↔ Right xs) := ⟨fun _ => h1, fun _ => rfl⟩
    have H2 : Hid _ := h2
    have H4 : Hid _ := h4
    have H6 : Hid _ := h6
    rw [decide_eq_false h3] at ef
    rw [decide_eq_false h5] at et
    obtain ⟨i, h7a⟩ : ∃ i, at? xs f = some i := by
      cases e : at? xs f with
      | none => exact absurd e h7
      | some i => exact ⟨i, rfl⟩
    have hi := (at_some h7a).1
    have H7 : Hid (findI xs f = (i : Int)) := by show _ = _; unfold findI; rw [h7a]
    have H8 : Hid (dirE xs (parD t) = 0) := h8
    have hin : i < n := by rw [← HLEN.out]; exact hi
    obtain ⟨b, off, hab⟩ := HNL.out.addr (by omega)
    have D1 : Hid (w.cell? ⟨b, off + i * 5 + 1, none⟩ = some (.bool xs[i].dir)) := HNL.out.dir hab hi
    have q1 := isDir_at h7a hi
    obtain ⟨k, h9a⟩ : ∃ k, at? xs t = some k := by
      cases e : at? xs t with
      | none => exact absurd e h9
      | some k => exact ⟨k, rfl⟩
    have hk := (at_some h9a).1
    have H9 : Hid (findI xs t = (k : Int)) := by show _ = _; unfold findI; rw [h9a]
    have hkn : k < n := by rw [← HLEN.out]; exact hk
    have D2 : Hid (w.cell? ⟨b, off + k * 5 + 1, none⟩ = some (.bool xs[k].dir)) := HNL.out.dir hab hk
    rw [q1, isDir_at h9a hk] at h10
    clear h1 h2 h3 h4 h5 h6 h7 h7a h8 h9 h9a q1; generalize xs[i].dir = d1 at *
    generalize xs[k].dir = d2 at *
    subst hab; cases d1 with
    | true =>
      go_enter Tryz.func142, Tryz.ntmps142; go_wp2_with (first
        | (go_at_call 46; refine (CR.out _ true (Below.refl _ _) H1.out).mono ?_; rintro e w1 ⟨rfl, c1⟩; have cc1 : Hid _ := c1; clear c1)
        | (go_at_call_of 102 (Value.string f); refine (isPath_val f true _ HF.out H2.out).mono ?_; rintro e w2 ⟨rfl, c2⟩; have cc2 : Hid _ := bel_tr cc1.out c2; clear c2)
        | (go_at_call_of 102 (Value.string t); refine (isPath_val t true _ HT.out H4.out).mono ?_; rintro e w3 ⟨rfl, c3⟩; have cc3 : Hid _ := bel_tr cc2.out c3; clear c3)
        | (go_at_call 105; refine (under_val f t false _ HF.out HT.out H6.out).mono ?_; rintro e w4 ⟨rfl, c4⟩; have cc4 : Hid _ := bel_tr cc3.out c4; clear c4)
        | (go_at_call_of 87 (Value.string f); refine (CF.out _ f _ cc4.out H7.out).mono ?_; rintro e w5 ⟨rfl, c5⟩; have cc5 : Hid _ := bel_tr cc4.out c5; clear c5)
        | (go_at_call 90; refine (CP.out _ _ cc5.out H8.out).mono ?_; rintro e w6 ⟨rfl, c6⟩; have cc6 : Hid _ := bel_tr cc5.out c6; clear c6)
        | (go_at_call_of 87 (Value.string t); refine (CF.out _ t _ cc6.out H9.out).mono ?_; rintro e w7 ⟨rfl, c7⟩; have cc7 : Hid _ := bel_tr cc6.out c7; have y1 := bel_cell cc7.out D1.out; have y2 := bel_cell cc7.out D2.out; clear c7))
      go_ret; exact ⟨rfl, cc7.out⟩
    | false =>
      have hd2 : d2 = true := by simpa using h10
      subst hd2; go_enter Tryz.func142, Tryz.ntmps142; go_wp2_with (first
        | (go_at_call 46; refine (CR.out _ true (Below.refl _ _) H1.out).mono ?_; rintro e w1 ⟨rfl, c1⟩; have cc1 : Hid _ := c1; clear c1)
        | (go_at_call_of 102 (Value.string f); refine (isPath_val f true _ HF.out H2.out).mono ?_; rintro e w2 ⟨rfl, c2⟩; have cc2 : Hid _ := bel_tr cc1.out c2; clear c2)
        | (go_at_call_of 102 (Value.string t); refine (isPath_val t true _ HT.out H4.out).mono ?_; rintro e w3 ⟨rfl, c3⟩; have cc3 : Hid _ := bel_tr cc2.out c3; clear c3)
        | (go_at_call 105; refine (under_val f t false _ HF.out HT.out H6.out).mono ?_; rintro e w4 ⟨rfl, c4⟩; have cc4 : Hid _ := bel_tr cc3.out c4; clear c4)
        | (go_at_call_of 87 (Value.string f); refine (CF.out _ f _ cc4.out H7.out).mono ?_; rintro e w5 ⟨rfl, c5⟩; have cc5 : Hid _ := bel_tr cc4.out c5; clear c5)
        | (go_at_call 90; refine (CP.out _ _ cc5.out H8.out).mono ?_; rintro e w6 ⟨rfl, c6⟩; have cc6 : Hid _ := bel_tr cc5.out c6; clear c6)
        | (go_at_call_of 87 (Value.string t); refine (CF.out _ t _ cc6.out H9.out).mono ?_; rintro e w7 ⟨rfl, c7⟩; have cc7 : Hid _ := bel_tr cc6.out c7; have y1 := bel_cell cc7.out D1.out; have y2 := bel_cell cc7.out D2.out; clear c7))
      go_ret; exact ⟨rfl, cc7.out⟩
  | ok h1 h2 h3 h4 h5 h6 h7 h8 h9 =>
    have H1 : Hid (true = true ↔ Right xs) := ⟨fun _ => h1, fun _ => rfl⟩
    have H2 : Hid _ := h2
    have H4 : Hid _ := h4
    have H6 : Hid _ := h6
    rw [decide_eq_false h3] at ef
    rw [decide_eq_false h5] at et
    obtain ⟨i, h7a⟩ : ∃ i, at? xs f = some i := by
      cases e : at? xs f with
      | none => exact absurd e h7
      | some i => exact ⟨i, rfl⟩
    have hi := (at_some h7a).1
    have H7 : Hid (findI xs f = (i : Int)) := by show _ = _; unfold findI; rw [h7a]
    have H8 : Hid (dirE xs (parD t) = 0) := h8
    have hin : i < n := by rw [← HLEN.out]; exact hi
    obtain ⟨b, off, hab⟩ := HNL.out.addr (by omega)
    have D1 : Hid (w.cell? ⟨b, off + i * 5 + 1, none⟩ = some (.bool xs[i].dir)) := HNL.out.dir hab hi
    have q1 := isDir_at h7a hi
    cases h9a : at? xs t with
    | none =>
      have H9 : Hid (findI xs t = -1) := find_neg h9a
      clear h1 h2 h3 h4 h5 h6 h7 h7a h8 h9 h9a q1; generalize xs[i].dir = d1 at *
      subst hab; go_enter Tryz.func142, Tryz.ntmps142; go_wp2_with (first
        | (go_at_call 46; refine (CR.out _ true (Below.refl _ _) H1.out).mono ?_; rintro e w1 ⟨rfl, c1⟩; have cc1 : Hid _ := c1; clear c1)
        | (go_at_call_of 102 (Value.string f); refine (isPath_val f true _ HF.out H2.out).mono ?_; rintro e w2 ⟨rfl, c2⟩; have cc2 : Hid _ := bel_tr cc1.out c2; clear c2)
        | (go_at_call_of 102 (Value.string t); refine (isPath_val t true _ HT.out H4.out).mono ?_; rintro e w3 ⟨rfl, c3⟩; have cc3 : Hid _ := bel_tr cc2.out c3; clear c3)
        | (go_at_call 105; refine (under_val f t false _ HF.out HT.out H6.out).mono ?_; rintro e w4 ⟨rfl, c4⟩; have cc4 : Hid _ := bel_tr cc3.out c4; clear c4)
        | (go_at_call_of 87 (Value.string f); refine (CF.out _ f _ cc4.out H7.out).mono ?_; rintro e w5 ⟨rfl, c5⟩; have cc5 : Hid _ := bel_tr cc4.out c5; clear c5)
        | (go_at_call 90; refine (CP.out _ _ cc5.out H8.out).mono ?_; rintro e w6 ⟨rfl, c6⟩; have cc6 : Hid _ := bel_tr cc5.out c6; clear c6)
        | (go_at_call_of 87 (Value.string t); refine (CF.out _ t _ cc6.out H9.out).mono ?_; rintro e w7 ⟨rfl, c7⟩; have cc7 : Hid _ := bel_tr cc6.out c7; clear c7))
      go_ret; exact ⟨rfl, cc7.out⟩
    | some k =>
      have hk := (at_some h9a).1
      have H9 : Hid (findI xs t = (k : Int)) := by show _ = _; unfold findI; rw [h9a]
      have hkn : k < n := by rw [← HLEN.out]; exact hk
      have D2 : Hid (w.cell? ⟨b, off + k * 5 + 1, none⟩ = some (.bool xs[k].dir)) := HNL.out.dir hab hk
      have h10 := h9 (by rw [h9a]; simp)
      rw [q1, isDir_at h9a hk, Bool.or_eq_false_iff] at h10
      obtain ⟨h10a, h10b⟩ := h10
      rw [h10a] at D1
      rw [h10b] at D2
      clear h1 h2 h3 h4 h5 h6 h7 h7a h8 h9 h9a q1 h10a h10b; subst hab; go_enter Tryz.func142, Tryz.ntmps142; go_wp2_with (first
        | (go_at_call 46; refine (CR.out _ true (Below.refl _ _) H1.out).mono ?_; rintro e w1 ⟨rfl, c1⟩; have cc1 : Hid _ := c1; clear c1)
        | (go_at_call_of 102 (Value.string f); refine (isPath_val f true _ HF.out H2.out).mono ?_; rintro e w2 ⟨rfl, c2⟩; have cc2 : Hid _ := bel_tr cc1.out c2; clear c2)
        | (go_at_call_of 102 (Value.string t); refine (isPath_val t true _ HT.out H4.out).mono ?_; rintro e w3 ⟨rfl, c3⟩; have cc3 : Hid _ := bel_tr cc2.out c3; clear c3)
        | (go_at_call 105; refine (under_val f t false _ HF.out HT.out H6.out).mono ?_; rintro e w4 ⟨rfl, c4⟩; have cc4 : Hid _ := bel_tr cc3.out c4; clear c4)
        | (go_at_call_of 87 (Value.string f); refine (CF.out _ f _ cc4.out H7.out).mono ?_; rintro e w5 ⟨rfl, c5⟩; have cc5 : Hid _ := bel_tr cc4.out c5; clear c5)
        | (go_at_call 90; refine (CP.out _ _ cc5.out H8.out).mono ?_; rintro e w6 ⟨rfl, c6⟩; have cc6 : Hid _ := bel_tr cc5.out c6; clear c6)
        | (go_at_call_of 87 (Value.string t); refine (CF.out _ t _ cc6.out H9.out).mono ?_; rintro e w7 ⟨rfl, c7⟩; have cc7 : Hid _ := bel_tr cc6.out c7; have y1 := bel_cell cc7.out D1.out; have y2 := bel_cell cc7.out D2.out; clear c7))
      go_ret; exact ⟨rfl, cc7.out⟩
end Go.Proofs.YtdilfbfkeiaafaaGreat
