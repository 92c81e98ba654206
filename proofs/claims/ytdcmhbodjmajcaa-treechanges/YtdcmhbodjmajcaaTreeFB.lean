/- The contract of tree.ordered: a list of nodes of the call's own is sorted. -/
import Derived.Test.YtdcmhbodjmajcaaTreeFA
import Derived.Test.YtdcmhbodjmajcaaTreeOrd
namespace Go.Proofs.Ytdcmhbodjmajcaa
open Go.RowKit

theorem ltOf_cmp (x y : NR) : ltOf cmpN x y = ltB x.1.path y.1.path := by
  unfold ltOf cmpN ltB
  rw [cmp_lt, Lib.toList_data, Lib.toList_data]

theorem swoN : Sort.SWO (ltOf cmpN) where
  irrefl x := by rw [ltOf_cmp]; exact ltB_irrefl _
  trans x y z h1 h2 := by rw [ltOf_cmp] at *; exact ltB_trans h1 h2
  ntrans x y z h1 h2 := by rw [ltOf_cmp] at *; exact ltB_ntrans h1 h2

theorem nr_get (ps : List NR) (i : Nat) (hi : i < ps.length) : ps.toArray[i]! = ps[i] := by
  simp [hi]

theorem holds_of_cel {O : Nat → Prop} {w : World} {blk n c : Nat} {ps : List NR} (h : Cel O w 5 (.slice (some ⟨blk, 0, none⟩) n c) n (rowC ndC ps) (some blk)) (hn : ps.length = n) : Sort.HoldsK ndC 5 w blk 0 ps.toArray := by
  obtain ⟨hc1, hc2, _⟩ := h.cap2
  intro t ht
  rw [Sort.size_flatK, List.size_toArray] at ht
  have hd : t / 5 < ps.length := by omega
  have e := rowC_at wideX ps (t / 5) hd (t % 5) (by omega)
  have e2 : t / 5 * 5 + t % 5 = t := by omega
  rw [e2] at e
  have hl : t < (rowC ndC ps).length := by rw [rowC_len wideX]; exact ht
  have hc := h.cell t hl
  refine ⟨?_, ?_⟩
  · rw [Nat.zero_add, hc, Sort.get_flatK _ _ _ _ (by rw [List.size_toArray]; exact ht), nr_get ps _ hd]
    rw [List.getElem?_eq_getElem hl] at e
    have e3 : (ndC ps[t / 5])[t % 5]! = (rowC ndC ps)[t] := by
      rw [List.getElem!_eq_getElem?_getD, ← e]; rfl
    rw [e3]; rfl
  · rw [Nat.zero_add]
    have : n * 5 ≤ c * 5 := Nat.mul_le_mul_right _ hc1
    exact (h.live t (by omega)).2

theorem cel_of_holds {O : Nat → Prop} {w w' : World} {blk n c : Nat} {ps qs : List NR} (h : Cel O w 5 (.slice (some ⟨blk, 0, none⟩) n c) n (rowC ndC ps) (some blk)) (hq : qs.length = n) (hH : Sort.HoldsK ndC 5 w' blk 0 qs.toArray) (hs : w.heap.size ≤ w'.heap.size)
    (hlive : ∀ j, j < c * 5 → (w'.cell? ⟨blk, j, none⟩).isSome = true ∧ w'.frozen? ⟨blk, j, none⟩ = false) : Cel O w' 5 (.slice (some ⟨blk, 0, none⟩) n c) n (rowC ndC qs) (some blk) := by
  obtain ⟨hc1, hc2, _⟩ := h.cap2
  obtain ⟨h3, h2⟩ := h.lt
  refine .row blk c rfl (by rw [rowC_len wideX, hq]) h2 (by omega) hc1 hc2 (fun t ht => ?_) hlive
  rw [rowC_len wideX] at ht
  have hd : t / 5 < qs.length := by omega
  have hc := (hH t (by rw [Sort.size_flatK, List.size_toArray]; exact ht)).1
  rw [Nat.zero_add, Sort.get_flatK _ _ _ _ (by rw [List.size_toArray]; exact ht), nr_get qs _ hd] at hc
  rw [hc]
  have e := rowC_at wideX qs (t / 5) hd (t % 5) (by omega)
  have e2 : t / 5 * 5 + t % 5 = t := by omega
  rw [e2] at e
  have hl : t < (rowC ndC qs).length := by rw [rowC_len wideX]; exact ht
  rw [List.getElem?_eq_getElem hl] at e
  have e3 : (ndC qs[t / 5])[t % 5]! = (rowC ndC qs)[t] := by
    rw [List.getElem!_eq_getElem?_getD, ← e]; rfl
  rw [e3]; rfl

theorem sorted_stay (w : World) (blk m : Nat) (d : Array NR) (os : Array Obj) : Stay (fun k => some blk = some k) w (sortWorldK ndC 5 w blk 0 m d os) := by
  refine ⟨rfl, rfl, rfl, size_sortWorldK_c ndC 5 w blk 0 m d os, fun k hk hne => ?_⟩
  unfold sortWorldK
  have hb : k ≠ blk := fun e => hne (by rw [e])
  have h1 : k < (Sort.putRowK ndC 5 (Sort.ahead w m) blk 0 d).heap.size := by rw [Sort.size_putRowK]; exact hk
  rw [Sort.heap_grow_old _ _ h1]
  unfold Sort.putRowK Sort.putRow Sort.mapBlock
  simp only [Array.getElem?_modify]
  rw [if_neg (fun e => hb e.symm)]
  rfl

theorem sorted_live (w : World) (blk m j : Nat) (d0 d : Array NR) (os : Array Obj) (hblk : blk < w.heap.size) (hH : Sort.HoldsK ndC 5 w blk 0 d0) (hs : d.size = d0.size) (h : (w.cell? ⟨blk, j, none⟩).isSome = true ∧ w.frozen? ⟨blk, j, none⟩ = false) :
    ((sortWorldK ndC 5 w blk 0 m d os).cell? ⟨blk, j, none⟩).isSome = true ∧ (sortWorldK ndC 5 w blk 0 m d os).frozen? ⟨blk, j, none⟩ = false := by
  have h1 : blk < (Sort.putRowK ndC 5 (Sort.ahead w m) blk 0 d).heap.size := by rw [Sort.size_putRowK]; exact hblk
  constructor
  · by_cases hj : j < d.size * 5
    · have := (holdsK_sortWorldK_c ndC 5 w blk 0 d0 d m os hH hblk hs j (by rw [Sort.size_flatK]; exact hj)).1
      rw [Nat.zero_add] at this
      rw [this]; rfl
    · unfold sortWorldK
      rw [Sort.cell?_grow _ _ _ h1]
      unfold Sort.putRowK
      rw [Sort.cell?_putRow_other _ _ _ _ _ _ (.inr (.inr (by rw [Sort.size_flatK]; show 0 + d.size * 5 ≤ j; omega)))]
      exact h.1
  · unfold sortWorldK
    rw [Sort.frozen?_grow _ _ _ h1]
    unfold Sort.putRowK
    rw [Sort.frozen?_putRow]
    exact h.2

theorem perm_of_in {d d' : Array NR} (h : Sort.PermIn 0 d.size d d') : d'.toList.Perm d.toList := by
  obtain ⟨h1, _, h3⟩ := h
  have e1 : d'.extract 0 d.size = d' := by rw [← h1]; simp
  have e2 : d.extract 0 d.size = d := by simp
  rw [e1, e2] at h3
  exact h3

theorem sorted_of_in {d' : Array NR} {n : Nat} (hn : d'.size = n) (h : Sort.SortedIn (ltOf cmpN) 0 n d') : (d'.toList.map (·.1)).Pairwise (fun x y => ltB y.path x.path = false) := by
  rw [List.pairwise_iff_getElem]
  intro i j hi hj hij
  rw [List.length_map, Array.length_toList] at hi hj
  have := h i j (Nat.zero_le _) hij (by omega)
  rw [ltOf_cmp] at this
  have e1 : d'[i]! = d'[i] := by simp [hi]
  have e2 : d'[j]! = d'[j] := by simp [hj]
  rw [e1, e2] at this
  simpa using this

set_option maxRecDepth 100000 in
set_option maxHeartbeats 1000000 in
theorem ordered_val {base n c : Nat} {a : Option Addr} {xs : NS} {w : World} (h : LX base w a n c xs) (hp : 0 < n) (hn : n ≤ 1000) (ha : Apart xs) :
    Calls Try.prog 48 #[.slice a n c] w fun e w' => e = .returned (.slice a n c) ∧ LX base w' a n c (sortN xs) ∧ Stay (fun k => base ≤ k) w w' := by
  obtain ⟨ps, g, h1, h2⟩ := h.ex
  obtain ⟨blk, rfl, rfl⟩ := h2.cel.at2 hp
  have hlen := h2.len
  have hlt := h2.cel.lt.1
  have hsA : ps.toArray.size = n := by simp [hlen]
  have hH := holds_of_cel h2.cel hlen
  have eg : ∀ args w, (callFunc 70 args).run Try.prog w = .ok (.enter 70 args) w := enters_of Try.func70 (by kernel_rfl) rfl
  have hcmp : CmpLays Try.prog 70 #[] ndC 5 cmpN blk 0 ps.toArray.size w := fun _ _ _ _ x y => ordered1_val x y _
  have hcon := AnyQ.slices_SortFunc sortNd 5 Try.isAgg25 Try.sizeOf25 ndC (fun _ => rfl) (fun x v hv => wideX.one x v hv) cmpN swoN 70 #[] blk 0 c ps.toArray w eg hcmp hH hlt (by rw [List.size_toArray]; omega)
  rw [List.size_toArray, hlen] at hcon
  change Calls Try.prog 69 _ _ _ at hcon
  have CC : Hid (Calls Try.prog 69 #[.slice (some ⟨blk, 0, none⟩) n c, .func (.func 70) #[] #[]] w fun e w' => e = .returned (.tuple #[]) ∧ LX base w' (some ⟨blk, 0, none⟩) n c (sortN xs) ∧ Stay (fun k => base ≤ k) w w') := hcon.mono fun e w' ⟨he, d', m, os, hP, hS, hw⟩ => by
    have hsz : d'.size = n := by
      have := hP.1; omega
    have hperm : d'.toList.Perm ps := perm_of_in (by rw [List.size_toArray, hlen]; exact hP)
    have hst : Stay (fun k => some blk = some k) w w' := by rw [hw]; exact sorted_stay w blk m d' os
    have hdl : d'.toList.length = n := by rw [Array.length_toList]; exact hsz
    have hH' : Sort.HoldsK ndC 5 w' blk 0 d'.toList.toArray := by
      rw [hw]
      exact holdsK_sortWorldK_c ndC 5 w blk 0 ps.toArray d'.toList.toArray m os hH hlt (by rw [List.size_toArray, List.size_toArray]; omega)
    have hcel := cel_of_holds h2.cel hdl hH' hst.size (fun j hj => by
      rw [hw]
      exact sorted_live w blk m j ps.toArray d' os hlt hH (by omega) (h2.cel.live j hj))
    refine ⟨he, ⟨d'.toList, some blk, ?_, hcel, hdl, fun x hx => ?_, fun x hx => h2.ap x (hperm.subset hx)⟩, hst.mono (fun k hk => by cases hk; exact h2.cel.lt.2)⟩
    · have hpm : (d'.toList.map (·.1)).Perm xs := by rw [← h1]; exact hperm.map _
      exact sortN_is hpm (asc_of (sorted_of_in hsz hS) (ha.perm hpm.symm))
    · exact Stay.free (h2.ok x (hperm.subset hx)) hst (fun k hk e => by
        exact h2.ap x (hperm.subset hx) k e hk)
  clear hcon hcmp hH h h2 eg
  go_enter Try.func48, Try.ntmps48
  go_wp2_with (refine CC.out.mono ?_; rintro e w1 ⟨rfl, hX⟩; have HX : Hid _ := hX; clear hX)
  go_ret
  exact ⟨rfl, HX.out⟩

end Go.Proofs.Ytdcmhbodjmajcaa
