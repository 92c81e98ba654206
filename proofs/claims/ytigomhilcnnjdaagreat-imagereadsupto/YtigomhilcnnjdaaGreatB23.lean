/- Part 23 of the proof: TreeFA, TreeFB, TreeFC, TreeFD, TreeFE. -/
import Derived.Test.YtigomhilcnnjdaaGreatB15
import Derived.Test.YtigomhilcnnjdaaGreatB18
import Derived.Test.YtigomhilcnnjdaaGreatB22
import Derived.Lib.Bytealg

/- The contract of tree.ordered: a list of nodes of the call's own is sorted. -/
namespace Go.Proofs.YtigomhilcnnjdaaGreat
open Go.RowKit

def cmpN (x y : NR) : Int := Lib.compareBytes x.1.path.data.toList y.1.path.data.toList

end Go.Proofs.YtigomhilcnnjdaaGreat

/- The contract of tree.ordered: a list of nodes of the call's own is sorted. -/
namespace Go.Proofs.YtigomhilcnnjdaaGreat
open Go.RowKit

theorem ltOf_cmp (x y : NR) : ltOf cmpN x y = ltB x.1.path y.1.path := by
  unfold ltOf cmpN ltB
  rw [cmp_lt, Lib.toList_data, Lib.toList_data]

theorem swoN : Sort.SWO (ltOf cmpN) where
  irrefl x := by rw [ltOf_cmp]; exact ltB_irrefl _
  trans x y z h1 h2 := by rw [ltOf_cmp] at *; exact ltB_trans h1 h2
  ntrans x y z h1 h2 := by rw [ltOf_cmp] at *; exact ltB_ntrans h1 h2

theorem nr_get (ps : List NR) (i : Nat) (hi : i < ps.length) : ps.toArray[i]! = ps[i] := by
  simp [hi]

theorem holds_of_cel {O : Nat → Prop} {w : World} {blk n c : Nat} {ps : List NR} (h : Cel O w 5 (.slice (some ⟨blk, 0, none⟩) n c) n (rowC ndC ps) (some blk)) (hn : ps.length = n) : Sort.HoldsK ndC 5 w blk 0 ps.toArray := by
  obtain ⟨hc1, hc2, _⟩ := h.cap2
  intro t ht
  rw [Sort.size_flatK, List.size_toArray] at ht
  have hd : t / 5 < ps.length := by omega
  have e := rowC_at wideX ps (t / 5) hd (t % 5) (by omega)
  have e2 : t / 5 * 5 + t % 5 = t := by omega
  rw [e2] at e
  have hl : t < (rowC ndC ps).length := by rw [rowC_len wideX]; exact ht
  have hc := h.cell t hl
  refine ⟨?_, ?_⟩
  · rw [Nat.zero_add, hc, Sort.get_flatK _ _ _ _ (by rw [List.size_toArray]; exact ht), nr_get ps _ hd]
    rw [List.getElem?_eq_getElem hl] at e
    have e3 : (ndC ps[t / 5])[t % 5]! = (rowC ndC ps)[t] := by
      rw [List.getElem!_eq_getElem?_getD, ← e]; rfl
    rw [e3]; rfl
  · rw [Nat.zero_add]
    have : n * 5 ≤ c * 5 := Nat.mul_le_mul_right _ hc1
    exact (h.live t (by omega)).2

theorem cel_of_holds {O : Nat → Prop} {w w' : World} {blk n c : Nat} {ps qs : List NR} (h : Cel O w 5 (.slice (some ⟨blk, 0, none⟩) n c) n (rowC ndC ps) (some blk)) (hq : qs.length = n) (hH : Sort.HoldsK ndC 5 w' blk 0 qs.toArray) (hs : w.heap.size ≤ w'.heap.size)
    (hlive : ∀ j, j < c * 5 → (w'.cell? ⟨blk, j, none⟩).isSome = true ∧ w'.frozen? ⟨blk, j, none⟩ = false) : Cel O w' 5 (.slice (some ⟨blk, 0, none⟩) n c) n (rowC ndC qs) (some blk) := by
  obtain ⟨hc1, hc2, _⟩ := h.cap2
  obtain ⟨h3, h2⟩ := h.lt
  refine .row blk c rfl (by rw [rowC_len wideX, hq]) h2 (by omega) hc1 hc2 (fun t ht => ?_) hlive
  rw [rowC_len wideX] at ht
  have hd : t / 5 < qs.length := by omega
  have hc := (hH t (by rw [Sort.size_flatK, List.size_toArray]; exact ht)).1
  rw [Nat.zero_add, Sort.get_flatK _ _ _ _ (by rw [List.size_toArray]; exact ht), nr_get qs _ hd] at hc
  rw [hc]
  have e := rowC_at wideX qs (t / 5) hd (t % 5) (by omega)
  have e2 : t / 5 * 5 + t % 5 = t := by omega
  rw [e2] at e
  have hl : t < (rowC ndC qs).length := by rw [rowC_len wideX]; exact ht
  rw [List.getElem?_eq_getElem hl] at e
  have e3 : (ndC qs[t / 5])[t % 5]! = (rowC ndC qs)[t] := by
    rw [List.getElem!_eq_getElem?_getD, ← e]; rfl
  rw [e3]; rfl

theorem sorted_stay (w : World) (blk m : Nat) (d : Array NR) (os : Array Obj) : Stay (fun k => some blk = some k) w (sortWorldK ndC 5 w blk 0 m d os) := by
  refine ⟨rfl, rfl, rfl, size_sortWorldK_c ndC 5 w blk 0 m d os, fun k hk hne => ?_⟩
  unfold sortWorldK
  have hb : k ≠ blk := fun e => hne (by rw [e])
  have h1 : k < (Sort.putRowK ndC 5 (Sort.ahead w m) blk 0 d).heap.size := by rw [Sort.size_putRowK]; exact hk
  rw [Sort.heap_grow_old _ _ h1]
  unfold Sort.putRowK Sort.putRow Sort.mapBlock
  simp only [Array.getElem?_modify]
  rw [if_neg (fun e => hb e.symm)]
  rfl

theorem sorted_live (w : World) (blk m j : Nat) (d0 d : Array NR) (os : Array Obj) (hblk : blk < w.heap.size) (hH : Sort.HoldsK ndC 5 w blk 0 d0) (hs : d.size = d0.size) (h : (w.cell? ⟨blk, j, none⟩).isSome = true ∧ w.frozen? ⟨blk, j, none⟩ = false) :
    ((sortWorldK ndC 5 w blk 0 m d os).cell? ⟨blk, j, none⟩).isSome = true ∧ (sortWorldK ndC 5 w blk 0 m d os).frozen? ⟨blk, j, none⟩ = false := by
  have h1 : blk < (Sort.putRowK ndC 5 (Sort.ahead w m) blk 0 d).heap.size := by rw [Sort.size_putRowK]; exact hblk
  constructor
  · by_cases hj : j < d.size * 5
    · have := (holdsK_sortWorldK_c ndC 5 w blk 0 d0 d m os hH hblk hs j (by rw [Sort.size_flatK]; exact hj)).1
      rw [Nat.zero_add] at this
      rw [this]; rfl
    · unfold sortWorldK
      rw [Sort.cell?_grow _ _ _ h1]
      unfold Sort.putRowK
      rw [Sort.cell?_putRow_other _ _ _ _ _ _ (.inr (.inr (by rw [Sort.size_flatK]; show 0 + d.size * 5 ≤ j; omega)))]
      exact h.1
  · unfold sortWorldK
    rw [Sort.frozen?_grow _ _ _ h1]
    unfold Sort.putRowK
    rw [Sort.frozen?_putRow]
    exact h.2

theorem perm_of_in {d d' : Array NR} (h : Sort.PermIn 0 d.size d d') : d'.toList.Perm d.toList := by
  obtain ⟨h1, _, h3⟩ := h
  have e1 : d'.extract 0 d.size = d' := by rw [← h1]; simp
  have e2 : d.extract 0 d.size = d := by simp
  rw [e1, e2] at h3
  exact h3

theorem sorted_of_in {d' : Array NR} {n : Nat} (hn : d'.size = n) (h : Sort.SortedIn (ltOf cmpN) 0 n d') : (d'.toList.map (·.1)).Pairwise (fun x y => ltB y.path x.path = false) := by
  rw [List.pairwise_iff_getElem]
  intro i j hi hj hij
  rw [List.length_map, Array.length_toList] at hi hj
  have := h i j (Nat.zero_le _) hij (by omega)
  rw [ltOf_cmp] at this
  have e1 : d'[i]! = d'[i] := by simp [hi]
  have e2 : d'[j]! = d'[j] := by simp [hj]
  rw [e1, e2] at this
  simpa using this

end Go.Proofs.YtigomhilcnnjdaaGreat

/- The contracts of tree.refuseAdd, Add. -/
namespace Go.Proofs.YtigomhilcnnjdaaGreat
open Go.RowKit

/-- A copy is appended to a list of the call's own. -/
theorem Lot.push {base : Nat} {w2 w3 w5 : World} {fa : Option Addr} {fn fc : Nat} {qs : List NR} {g : Option Nat} (hL : Lot base w2 fa fn fc qs g) (hB : base ≤ w2.heap.size) {x : Nd} {s : RS} (hF : Free w2.heap.size w3 (x, s)) (B2 : Below w2.heap.size w2 w3) {o : Obj} {a2 : Option Addr} {c2 : Nat} {g5 : Option Nat}
    (hC : Cel (Grow (fun k => base ≤ k) (w3.alloc o) w5) w5 5 (.slice a2 (fn + 1) c2) (fn + 1) (rowC ndC qs ++ rowC ndC [(x, s)]) g5) (hS : Stay (fun k => g = some k) (w3.alloc o) w5) (hg : ∀ k, g5 = some k → g = some k ∨ (w3.alloc o).heap.size ≤ k) : Lot base w5 a2 (fn + 1) c2 (qs ++ [(x, s)]) g5 ∧ Below base w2 w5 := by
  have B3 : Below w2.heap.size w2 (w3.alloc o) := bel_tr B2 (bel_al _ _)
  have z2 := B3.size
  have hge : ∀ k, g = some k → k < w2.heap.size ∧ base ≤ k := fun k hk => by have := hL.cel; rw [hk] at this; exact this.lt
  have hF2 := hF.below (bel_al w3 o)
  refine ⟨(hL.below B3).app (qs := [(x, s)]) (fun y hy => ?_) (fun y hy k hk e => ?_) rfl hC hS hg (by omega), ?_⟩
  · rw [List.mem_singleton.1 hy]; exact hF2.mono hB
  · rw [List.mem_singleton.1 hy] at e
    have := hF2.blk_ge k e
    have := (hge k hk).1
    omega
  · exact (B3.mono hB).trans (hS.below (by omega) (fun k hk => (hge k hk).2))

theorem apart_snoc {xs : NS} {x : Nd} (h : Apart xs) (hx : at? xs x.path = none) : Apart (xs ++ [x]) := by
  unfold Apart
  rw [List.pairwise_append]
  refine ⟨h, List.pairwise_singleton _ _, fun y hy z hz => ?_⟩
  rw [List.mem_singleton.1 hz]
  exact at_none hx y hy

def addL (xs : NS) (x : Nd) (E : Int) : NS := if E = 0 then sortN (xs ++ [x]) else []

end Go.Proofs.YtigomhilcnnjdaaGreat

/- The contract of tree.refuseMove. -/
namespace Go.Proofs.YtigomhilcnnjdaaGreat
open Go.RowKit

/-- What refuseMove tells: all but that a path would get too long. -/
inductive RefM (xs : NS) (f t : ByteArray) : Int → Prop
  | arg : ¬ (Right xs ∧ pathB f = true ∧ f ≠ rootP ∧ pathB t = true ∧ t ≠ rootP ∧ underB f t = false) → RefM xs f t 1
  | none : Right xs → pathB f = true → f ≠ rootP → pathB t = true → t ≠ rootP → underB f t = false → at? xs f = none → RefM xs f t 5
  | par (e : Int) : Right xs → pathB f = true → f ≠ rootP → pathB t = true → t ≠ rootP → underB f t = false → at? xs f ≠ none → dirE xs (parD t) = e → e ≠ 0 → RefM xs f t e
  | exist : Right xs → pathB f = true → f ≠ rootP → pathB t = true → t ≠ rootP → underB f t = false → at? xs f ≠ none → dirE xs (parD t) = 0 → at? xs t ≠ none → (isDir xs f || isDir xs t) = true → RefM xs f t 6
  | ok : Right xs → pathB f = true → f ≠ rootP → pathB t = true → t ≠ rootP → underB f t = false → at? xs f ≠ none → dirE xs (parD t) = 0 → (at? xs t ≠ none → (isDir xs f || isDir xs t) = false) → RefM xs f t 0

theorem isDir_at {xs : NS} {p : ByteArray} {i : Nat} (h : at? xs p = some i) (hi : i < xs.length) : isDir xs p = xs[i].dir := by
  unfold isDir dirE
  rw [h]
  simp only [List.getElem?_eq_getElem hi, Option.map_some, Option.getD_some]
  cases xs[i].dir <;> simp

end Go.Proofs.YtigomhilcnnjdaaGreat

/- The contract of tree.Move. -/
namespace Go.Proofs.YtigomhilcnnjdaaGreat
open Go.RowKit

def mvR (f t : ByteArray) (x : NR) : NR := (movN f t x.1, x.2)
def mvTo (f t : ByteArray) (qs : List NR) (i : Nat) : List NR := (qs.take i).map (mvR f t) ++ qs.drop i

theorem mvTo_len (f t : ByteArray) (qs : List NR) (i : Nat) : (mvTo f t qs i).length = qs.length := by
  unfold mvTo; rw [List.length_append, List.length_map, List.length_take, List.length_drop]; omega
theorem mvTo_zero (f t : ByteArray) (qs : List NR) : mvTo f t qs 0 = qs := by simp [mvTo]
theorem mvTo_all (f t : ByteArray) (qs : List NR) (i : Nat) (h : qs.length ≤ i) : mvTo f t qs i = qs.map (mvR f t) := by
  unfold mvTo; rw [List.take_of_length_le h, List.drop_of_length_le h, List.append_nil]
theorem mvTo_at (f t : ByteArray) (qs : List NR) (i : Nat) (h : i < qs.length) : (mvTo f t qs i)[i]'(by rw [mvTo_len]; exact h) = qs[i] := by
  unfold mvTo
  rw [List.getElem_append_right (by rw [List.length_map, List.length_take]; omega)]
  simp only [List.length_map, List.length_take, List.getElem_drop]
  congr 1
  omega
theorem mvTo_next (f t : ByteArray) (qs : List NR) (i : Nat) (h : i < qs.length) : mvTo f t qs (i + 1) = (mvTo f t qs i).set i (mvR f t qs[i]) := by
  unfold mvTo
  rw [List.take_succ_eq_append_getElem h, List.map_append, List.set_append_right _ _ (by rw [List.length_map, List.length_take]; omega)]
  have e : i - ((qs.take i).map (mvR f t)).length = 0 := by rw [List.length_map, List.length_take]; omega
  rw [e, List.drop_eq_getElem_cons h, List.set_cons_zero]
  simp
theorem mvTo_snd (f t : ByteArray) (qs : List NR) (i : Nat) : ∀ x ∈ mvTo f t qs i, ∃ y ∈ qs, x.2 = y.2 ∧ x.1.bs = y.1.bs ∧ (x = y ∨ x = mvR f t y) := by
  intro x hx
  unfold mvTo at hx
  rcases List.mem_append.1 hx with hx | hx
  · obtain ⟨y, hy, rfl⟩ := List.mem_map.1 hx
    exact ⟨y, List.mem_of_mem_take hy, rfl, rfl, .inr rfl⟩
  · exact ⟨x, List.mem_of_mem_drop hx, rfl, rfl, .inl rfl⟩

/-- A node's path is written. -/
theorem Cel.setPath {O : Nat → Prop} {w : World} {a : Option Addr} {n c g : Nat} {qs : List NR} (h : Cel O w 5 (.slice a n c) n (rowC ndC qs) (some g)) (hn : qs.length = n) (i : Nat) (hi : i < n) (y : NR) (hy : ∀ j, 0 < j → (ndC y)[j]? = (ndC (qs[i]'(by omega)))[j]?) :
    Cel O (w.setCell ⟨g, i * 5, none⟩ (.string y.1.path)) 5 (.slice a n c) n (rowC ndC (qs.set i y)) (some g) := by
  have hc := h.cap2.1
  have h1 : (i + 1) * 5 ≤ c * 5 := Nat.mul_le_mul_right _ (by omega)
  have hl : (rowC ndC (qs.set i y)).length = n * 5 := by rw [rowC_len wideX, List.length_set, hn]
  refine h.setCells (i * 5) [.string y.1.path] (by simp; omega) n _ hc hl (fun q hq => ?_)
  rw [← List.getElem?_eq_getElem hq]
  rw [hl] at hq
  have hd : q / 5 < n := by omega
  have e := rowC_at wideX (qs.set i y) (q / 5) (by rw [List.length_set]; omega) (q % 5) (by omega)
  have e' := rowC_at wideX qs (q / 5) (by omega) (q % 5) (by omega)
  have e2 : q / 5 * 5 + q % 5 = q := by omega
  rw [e2] at e e'
  rw [e, e']
  by_cases hqi : q / 5 = i
  · subst hqi
    rw [List.getElem_set_self]
    by_cases h0 : q % 5 = 0
    · rw [if_pos (by simp; omega), show q - q / 5 * 5 = 0 by omega, h0]; rfl
    · rw [if_neg (by simp; omega), hy _ (by omega)]
  · rw [if_neg (by simp; omega), List.getElem_set_ne (fun e => hqi e.symm)]

theorem move_err {p f t : ByteArray} (hu : underB f p = true) (ht : splitE t = 0) (h : (moveX p f t).2 ≠ 0) : (moveX p f t).2 = 4 := by
  obtain ⟨h1, h2, h3⟩ := underB_iff.1 hu
  rw [moveX, if_pos ⟨hu, ht⟩] at *
  rcases joinX_cases (splitN t ++ (splitN p).drop (splitN f).length) with ⟨_, e⟩ | ⟨_, e, k⟩ | ⟨_, e, _⟩
  · rw [e] at h; exact absurd rfl h
  · rw [List.all_append, List.all_eq_true.2 (split_ok ht).1.names, Bool.true_and, List.all_eq_false] at k
    obtain ⟨m, hm, hm2⟩ := k
    exact absurd ((split_ok h2).1.names m (List.mem_of_mem_drop hm)) hm2
  · rw [e]

theorem moveX_small (p f t : ByteArray) : (moveX p f t).1.size ≤ maxLen := by
  obtain ⟨⟨q, E⟩, h⟩ : ∃ x, moveX p f t = x := ⟨_, rfl⟩
  rw [h]
  by_cases hE : E = 0
  · subst hE
    have := (move_back h).2.2
    show q.size ≤ maxLen
    unfold maxLen; omega
  · rw [moveX_empty h hE]; exact Nat.zero_le _

/-- Behind the loop: what was moved. -/
theorem moved_lot {base : Nat} {w4 wr : World} {am : Option Addr} {m cm : Nat} {qs : List NR} {g : Option Nat} {f t : ByteArray} (hL : Lot base w4 am m cm qs g) (hC : Cel (fun k => base ≤ k) wr 5 (.slice am m cm) m (rowC ndC (qs.map (mvR f t))) g) (hS : Stay (fun k => g = some k) w4 wr) : Lot base wr am m cm (qs.map (mvR f t)) g := by
  refine ⟨hC, by rw [List.length_map]; exact hL.len, fun x hx => ?_, fun x hx => ?_⟩
  · obtain ⟨y, hy, rfl⟩ := List.mem_map.1 hx
    have h1 := Stay.free (hL.ok y hy) hS (fun k hk e => hL.ap y hy k e hk)
    exact ⟨⟨moveX_small _ _ _, h1.ok.bs⟩, h1.own⟩
  · obtain ⟨y, hy, rfl⟩ := List.mem_map.1 hx
    exact hL.ap y hy

theorem refM_of {xs : NS} {f t : ByteArray} {E : Int} (h : MovE xs f t E) : (E ≠ 0 ∧ RefM xs f t E) ∨ (RefM xs f t 0 ∧ (E = 0 ∨ E = 4)) := by
  cases h with
  | arg h => exact .inl ⟨by decide, .arg h⟩
  | none h1 h2 h3 h4 h5 h6 h7 => exact .inl ⟨by decide, .none h1 h2 h3 h4 h5 h6 h7⟩
  | par e h1 h2 h3 h4 h5 h6 h7 h8 h9 => exact .inl ⟨h9, .par E h1 h2 h3 h4 h5 h6 h7 h8 h9⟩
  | exist h1 h2 h3 h4 h5 h6 h7 h8 h9 h10 => exact .inl ⟨by decide, .exist h1 h2 h3 h4 h5 h6 h7 h8 h9 h10⟩
  | long h1 h2 h3 h4 h5 h6 h7 h8 h9 h10 => exact .inr ⟨.ok h1 h2 h3 h4 h5 h6 h7 h8 h9, .inr rfl⟩
  | ok h1 h2 h3 h4 h5 h6 h7 h8 h9 h10 => exact .inr ⟨.ok h1 h2 h3 h4 h5 h6 h7 h8 h9, .inl rfl⟩

def movA (xs : NS) (f t : ByteArray) (E : Int) : NS := if E = 0 then movL xs f t else []

end Go.Proofs.YtigomhilcnnjdaaGreat
