/- Part 15 of the proof: TreeOrd, TreeT1, TreeT2, TreeT3, QuotaM, TreeEx. -/
import Derived.Test.YtigomhilcnnjdaaGreatB14
import Derived.Lib.Bytealg

/- The order of paths, and lists of nodes in that order. No program in it. -/
namespace Go.Proofs.YtigomhilcnnjdaaGreat
open Go.RowKit

theorem bl_irrefl : ∀ l : List UInt8, Op.bytesLess l l = false
  | [] => rfl
  | a :: l => by
    simp only [Op.bytesLess, bl_irrefl l, Bool.and_false, Bool.or_false, decide_eq_false_iff_not]
    exact UInt8.lt_irrefl a
theorem bl_cons (a b : UInt8) (l m : List UInt8) : Op.bytesLess (a :: l) (b :: m) = true ↔ a.toNat < b.toNat ∨ (a = b ∧ Op.bytesLess l m = true) := by
  simp only [Op.bytesLess, Bool.or_eq_true, decide_eq_true_eq, Bool.and_eq_true, beq_iff_eq, UInt8.lt_iff_toNat_lt]
theorem bl_trans : ∀ a b c : List UInt8, Op.bytesLess a b = true → Op.bytesLess b c = true → Op.bytesLess a c = true
  | _, [], _, h, _ => by simp [Op.bytesLess] at h
  | _, _ :: _, [], _, h => by simp [Op.bytesLess] at h
  | [], _ :: _, _ :: _, _, _ => by simp [Op.bytesLess]
  | a :: l, b :: m, c :: n, h, k => by
    rw [bl_cons] at *
    rcases h with h | ⟨rfl, h⟩
    · rcases k with k | ⟨rfl, k⟩
      · left; omega
      · left; exact h
    · rcases k with k | ⟨rfl, k⟩
      · left; exact k
      · right; exact ⟨rfl, bl_trans l m n h k⟩
theorem bl_tri : ∀ a b : List UInt8, Op.bytesLess a b = false → Op.bytesLess b a = false → a = b
  | [], [], _, _ => rfl
  | [], _ :: _, h, _ => by simp [Op.bytesLess] at h
  | _ :: _, [], _, h => by simp [Op.bytesLess] at h
  | a :: l, b :: m, h, k => by
    rw [Bool.eq_false_iff, ne_eq, bl_cons] at h k
    have hab : a = b := by
      apply UInt8.toNat_inj.1
      have h1 : ¬ a.toNat < b.toNat := fun e => h (.inl e)
      have h2 : ¬ b.toNat < a.toNat := fun e => k (.inl e)
      omega
    subst hab
    rw [bl_tri l m (by rw [Bool.eq_false_iff]; exact fun e => h (.inr ⟨rfl, e⟩)) (by rw [Bool.eq_false_iff]; exact fun e => k (.inr ⟨rfl, e⟩))]

theorem ltB_irrefl (a : ByteArray) : ltB a a = false := bl_irrefl _
theorem ltB_trans {a b c : ByteArray} (h : ltB a b = true) (k : ltB b c = true) : ltB a c = true := bl_trans _ _ _ h k
theorem ltB_asymm {a b : ByteArray} (h : ltB a b = true) : ltB b a = false := by
  rw [Bool.eq_false_iff]; intro k
  have := ltB_trans h k
  rw [ltB_irrefl] at this; cases this
theorem ltB_tri {a b : ByteArray} (h : ltB a b = false) (k : ltB b a = false) : a = b := by
  have := bl_tri _ _ h k
  rw [Lib.toList_data, Lib.toList_data] at this
  exact ba_inj this
theorem ltB_ne {a b : ByteArray} (h : ltB a b = true) : a ≠ b := by
  intro e; subst e; rw [ltB_irrefl] at h; cases h
theorem ltB_ntrans {a b c : ByteArray} (h : ltB a b = false) (k : ltB b c = false) : ltB a c = false := by
  rw [Bool.eq_false_iff]; intro e
  cases h2 : ltB b a with
  | true =>
    have := ltB_trans h2 e
    rw [k] at this; cases this
  | false =>
    rw [ltB_tri h h2, k] at e
    cases e

theorem cmp_lt : ∀ l m : List UInt8, decide (Lib.compareBytes l m < 0) = Op.bytesLess l m
  | [], [] => rfl
  | [], _ :: _ => rfl
  | _ :: _, [] => rfl
  | a :: l, b :: m => by
    unfold Lib.compareBytes
    by_cases h1 : a < b
    · rw [if_pos h1]
      have : Op.bytesLess (a :: l) (b :: m) = true := (bl_cons ..).2 (.inl (UInt8.lt_iff_toNat_lt.1 h1))
      rw [this]; rfl
    · rw [if_neg h1]
      rw [UInt8.lt_iff_toNat_lt] at h1
      by_cases h2 : b < a
      · rw [if_pos h2]
        have : Op.bytesLess (a :: l) (b :: m) = false := by
          rw [Bool.eq_false_iff, ne_eq, bl_cons]
          rw [UInt8.lt_iff_toNat_lt] at h2
          rintro (e | ⟨rfl, _⟩) <;> omega
        rw [this]; rfl
      · rw [if_neg h2, cmp_lt l m]
        have hab : a = b := by
          apply UInt8.toNat_inj.1
          rw [UInt8.lt_iff_toNat_lt] at h2
          omega
        subst hab
        cases h3 : Op.bytesLess l m with
        | true => exact ((bl_cons ..).2 (.inr ⟨rfl, h3⟩)).symm
        | false =>
          symm
          rw [Bool.eq_false_iff, ne_eq, bl_cons]
          rintro (e | ⟨_, e⟩)
          · omega
          · rw [h3] at e; cases e

/-- Rising by their paths. -/
def Asc (l : NS) : Prop := l.Pairwise (fun x y => ltB x.path y.path = true)

theorem asc_unique : ∀ {l m : NS}, l.Perm m → Asc l → Asc m → l = m
  | [], m, h, _, _ => (List.nil_perm.1 h).symm
  | x :: l, [], h, _, _ => absurd h (by simp)
  | x :: l, y :: m, h, hl, hm => by
    obtain ⟨h1, h2⟩ := List.pairwise_cons.1 hl
    obtain ⟨k1, k2⟩ := List.pairwise_cons.1 hm
    have hx : x ∈ y :: m := h.subset (by simp)
    have hy : y ∈ x :: l := h.symm.subset (by simp)
    have e : x = y := by
      rcases List.mem_cons.1 hx with e | hx
      · exact e
      · rcases List.mem_cons.1 hy with e | hy
        · exact e.symm
        · have a1 := k1 x hx
          have a2 := h1 y hy
          rw [ltB_asymm a1] at a2; cases a2
    subst e
    rw [asc_unique (List.Perm.cons_inv h) h2 k2]

def sortN (l : NS) : NS := l.mergeSort (fun x y => !ltB y.path x.path)
theorem sortN_perm (l : NS) : (sortN l).Perm l := List.mergeSort_perm _ _
theorem sortN_len (l : NS) : (sortN l).length = l.length := (sortN_perm l).length_eq
theorem sortN_mem {l : NS} {x : Nd} : x ∈ sortN l ↔ x ∈ l := (sortN_perm l).mem_iff

/-- No two have the same path. -/
def Apart (l : NS) : Prop := l.Pairwise (fun x y => x.path ≠ y.path)

theorem Asc.apart {l : NS} (h : Asc l) : Apart l := List.Pairwise.imp (fun e => ltB_ne e) h
theorem Apart.perm {l m : NS} (h : Apart l) (p : l.Perm m) : Apart m := (p.pairwise_iff (fun {_ _} e => e.symm)).1 h

theorem asc_of {l : NS} (h : l.Pairwise (fun x y => ltB y.path x.path = false)) (ha : Apart l) : Asc l := by
  have := List.Pairwise.and h ha
  refine List.Pairwise.imp (fun {x y} e => ?_) this
  cases e2 : ltB x.path y.path with
  | true => rfl
  | false => exact absurd (ltB_tri e2 e.1) e.2

theorem sortN_asc {l : NS} (ha : Apart l) : Asc (sortN l) := by
  refine asc_of ?_ (ha.perm (sortN_perm l).symm)
  have := List.pairwise_mergeSort (le := fun x y : Nd => !ltB y.path x.path) (fun a b c h1 h2 => by
    simp only [Bool.not_eq_true'] at *
    exact ltB_ntrans h2 h1) (fun a b => by
    cases h : ltB a.path b.path with
    | true => rw [ltB_asymm h]; rfl
    | false => simp) l
  exact List.Pairwise.imp (fun e => by simpa using e) this

theorem sortN_is {l m : NS} (hp : m.Perm l) (ha : Asc m) : m = sortN l :=
  asc_unique (hp.trans (sortN_perm l).symm) ha (sortN_asc (ha.apart.perm hp))

theorem right_asc {xs : NS} (h : Right xs) : Asc xs := by
  unfold Asc
  rw [List.pairwise_iff_getElem]
  intro i j hi hj hij
  obtain ⟨d, rfl⟩ : ∃ d, j = i + 1 + d := ⟨j - i - 1, by omega⟩
  clear hij
  induction d with
  | zero => exact h.asc i hj
  | succ d ih => exact ltB_trans (ih (by omega)) (h.asc (i + 1 + d) hj)

end Go.Proofs.YtigomhilcnnjdaaGreat

/- Plain facts on trees: what stands above, what is moved. No program in it. -/
namespace Go.Proofs.YtigomhilcnnjdaaGreat
open Go.RowKit

theorem at_ex {xs : NS} {p : ByteArray} : at? xs p ≠ none ↔ ∃ x ∈ xs, x.path = p := by
  constructor
  · intro h
    cases e : at? xs p with
    | none => exact absurd e h
    | some i =>
      obtain ⟨hi, h1, _⟩ := at_some e
      exact ⟨_, List.getElem_mem hi, h1⟩
  · rintro ⟨x, hx, rfl⟩ e
    exact at_none e x hx rfl

theorem at_none_iff {xs : NS} {p : ByteArray} : at? xs p = none ↔ ∀ x ∈ xs, x.path ≠ p := ⟨at_none, at_no⟩

theorem dirE_ex {xs : NS} {p : ByteArray} (h : dirE xs p = 0) : ∃ x ∈ xs, x.path = p ∧ x.dir = true := by
  unfold dirE at h
  cases e : at? xs p with
  | none => rw [e] at h; cases h
  | some i =>
    obtain ⟨hi, h1, _⟩ := at_some e
    rw [e] at h
    refine ⟨_, List.getElem_mem hi, h1, ?_⟩
    cases hd : xs[i].dir with
    | true => rfl
    | false => simp [List.getElem?_eq_getElem hi, hd] at h

theorem Apart.same {xs : NS} (h : Apart xs) {x y : Nd} (hx : x ∈ xs) (hy : y ∈ xs) (e : x.path = y.path) : x = y := by
  obtain ⟨i, hi, rfl⟩ := List.getElem_of_mem hx
  obtain ⟨j, hj, rfl⟩ := List.getElem_of_mem hy
  unfold Apart at h
  rw [List.pairwise_iff_getElem] at h
  rcases Nat.lt_trichotomy i j with hij | hij | hij
  · exact absurd e (h i j hi hj hij)
  · subst hij; rfl
  · exact absurd e.symm (h j i hj hi hij)

theorem dirE_of {xs : NS} (ha : Apart xs) {x : Nd} (hx : x ∈ xs) : dirE xs x.path = if x.dir then 0 else 7 := by
  unfold dirE
  cases e : at? xs x.path with
  | none => exact absurd rfl (at_none e x hx)
  | some i =>
    obtain ⟨hi, h1, _⟩ := at_some e
    have := ha.same (List.getElem_mem hi) hx h1
    simp [List.getElem?_eq_getElem hi, this]

theorem dirE_zero {xs : NS} (ha : Apart xs) {p : ByteArray} : dirE xs p = 0 ↔ ∃ x ∈ xs, x.path = p ∧ x.dir = true := by
  constructor
  · exact dirE_ex
  · rintro ⟨x, hx, rfl, hd⟩
    rw [dirE_of ha hx, hd]; rfl

/-! ### paths -/
theorem root_split : splitN rootP = [] ∧ splitE rootP = 0 := exR0
theorem path_eq {p q : ByteArray} (hp : splitE p = 0) (hq : splitE q = 0) (h : splitN p = splitN q) : p = q := by rw [splitX_ok hp, splitX_ok hq, h]
theorem names_root {p : ByteArray} (h : splitE p = 0) (hn : splitN p = []) : p = rootP := path_eq h root_split.2 (by rw [hn, root_split.1])

theorem par_ex {p : ByteArray} (h : splitE p = 0) (hr : p ≠ rootP) : ∃ d n, parentX p = (d, n, 0) ∧ parD p = d ∧ nameN p = n ∧ splitN p = splitN d ++ [n] ∧ splitE d = 0 := by
  cases hl : (splitN p).length with
  | zero => exact absurd (names_root h (List.length_eq_zero_iff.1 hl)) hr
  | succ m =>
    have e := parentX_last h hl
    obtain ⟨h1, h2, h3, _⟩ := parent_ok e
    exact ⟨_, _, e, by unfold parD; rw [e], by unfold nameN; rw [e], h3, h2⟩

theorem pathL_ltB_root {p : ByteArray} (h : splitE p = 0) (hr : p ≠ rootP) : ltB rootP p = true := by
  have hp := splitX_ok h
  have hne : splitN p ≠ [] := fun e => hr (names_root h e)
  cases hN : splitN p with
  | nil => exact absurd hN hne
  | cons n ns =>
    have hn : nameB n = true := (split_ok h).1.names n (by rw [hN]; simp)
    rw [hp, hN, pathT_ne (by simp)]
    unfold ltB
    rw [Lib.toList_data, Lib.toList_data, mk_list, pathL_cons]
    show Op.bytesLess [47] (47 :: (n.data.toList ++ pathL ns)) = true
    rw [bl_cons]
    right
    refine ⟨rfl, ?_⟩
    have hl := nameL_len hn
    cases hd : n.data.toList with
    | nil => rw [hd] at hl; simp at hl
    | cons b l => simp [Op.bytesLess]

theorem under_self {p : ByteArray} (h : splitE p = 0) : underB p p = true := underB_iff.2 ⟨h, h, List.prefix_refl _⟩
theorem under_par {t p : ByteArray} (h : underB t p = true) (hne : t ≠ p) (hr : p ≠ rootP) : underB t (parD p) = true := by
  obtain ⟨h1, h2, h3⟩ := underB_iff.1 h
  obtain ⟨d, n, _, hd, _, hN, hE⟩ := par_ex h2 hr
  rw [hd]
  refine underB_iff.2 ⟨h1, hE, ?_⟩
  rw [hN] at h3
  rcases List.prefix_concat_iff.1 h3 with e | e
  · exact absurd (path_eq h1 h2 (by rw [e, hN])) hne
  · exact e

/-- What stands under p but is not p has a parent under p. -/
theorem par_not_under {t p : ByteArray} (ht : splitE p = 0) (hr : p ≠ rootP) (h : underB t p = false) : underB t (parD p) = false := by
  rw [Bool.eq_false_iff] at *
  intro e
  obtain ⟨h1, h2, h3⟩ := underB_iff.1 e
  obtain ⟨d, n, _, hd, _, hN, hE⟩ := par_ex ht hr
  rw [hd] at h3
  exact h (underB_iff.2 ⟨h1, ht, by rw [hN]; exact h3.trans (List.prefix_append _ _)⟩)

/-! ### trees by what is in them -/
theorem right_root {xs : NS} (h : Right xs) : ∃ x ∈ xs, x.path = rootP ∧ x.dir = true := by
  have hp := h.pos
  refine ⟨xs[0], List.getElem_mem hp, h.root hp, ?_⟩
  have hf := h.fit _ (List.getElem_mem hp)
  cases hd : xs[0].dir with
  | true => rfl
  | false =>
    unfold fitsB at hf
    rw [hd] at hf
    simp only [Bool.and_eq_true, Bool.false_eq_true, if_false] at hf
    have := hf.2
    unfold fileB headB at this
    simp only [Bool.and_eq_true, Bool.not_eq_true', decide_eq_false_iff_not] at this
    exact absurd (h.root hp) this.1.1.1.1

theorem right_par {xs : NS} (h : Right xs) {x : Nd} (hx : x ∈ xs) (hr : x.path ≠ rootP) : ∃ y ∈ xs, y.path = parD x.path ∧ y.dir = true := by
  obtain ⟨i, hi, rfl⟩ := List.getElem_of_mem hx
  have h0 : 0 < i := by
    rcases Nat.eq_zero_or_pos i with rfl | h0
    · exact absurd (h.root hi) hr
    · exact h0
  exact dirE_ex (h.par i hi h0)

theorem right_of {ys : NS} (ha : Asc ys) (hfew : ys.length ≤ 60) (hroot : ∃ x ∈ ys, x.path = rootP) (hfit : ∀ x ∈ ys, fitsB x = true) (hpar : ∀ x ∈ ys, x.path ≠ rootP → ∃ y ∈ ys, y.path = parD x.path ∧ y.dir = true) : Right ys := by
  obtain ⟨r, hr, hrp⟩ := hroot
  have hpos : 0 < ys.length := List.length_pos_of_mem hr
  have hg := ha
  unfold Asc at hg
  rw [List.pairwise_iff_getElem] at hg
  have h0 : ys[0].path = rootP := by
    obtain ⟨j, hj, hjr⟩ := List.getElem_of_mem hr
    rcases Nat.eq_zero_or_pos j with rfl | hjp
    · rw [hjr]; exact hrp
    · have h1 := hg 0 j hpos hj hjp
      rw [hjr, hrp] at h1
      by_cases e : ys[0].path = rootP
      · exact e
      · have h2 := pathL_ltB_root (fits_path (hfit _ (List.getElem_mem hpos))) e
        rw [ltB_asymm h1] at h2; cases h2
  refine ⟨hpos, hfew, fun _ => h0, hfit, fun i hi => hg i (i + 1) _ hi (by omega), fun i hi hip => ?_⟩
  have hne : ys[i].path ≠ rootP := by
    intro e
    have := hg 0 i hpos hi hip
    rw [h0, e, ltB_irrefl] at this; cases this
  exact (dirE_zero ha.apart).2 (hpar _ (List.getElem_mem hi) hne)

/-- What something stands under is a directory of the tree. -/
theorem above_dir {xs : NS} (h : Right xs) {t : ByteArray} : ∀ (k : Nat) (x : Nd), (splitN x.path).length ≤ k → x ∈ xs → underB t x.path = true → t ≠ x.path → ∃ y ∈ xs, y.path = t ∧ y.dir = true := by
  intro k
  induction k with
  | zero =>
    intro x hk hx hu hne
    obtain ⟨h1, h2, h3⟩ := underB_iff.1 hu
    have e : splitN x.path = [] := List.length_eq_zero_iff.1 (by omega)
    rw [e] at h3
    exact absurd (path_eq h1 h2 (by rw [e]; exact List.prefix_nil.1 h3)) hne
  | succ k ih =>
    intro x hk hx hu hne
    have hs := fits_path (h.fit x hx)
    by_cases hr : x.path = rootP
    · obtain ⟨h1, h2, h3⟩ := underB_iff.1 hu
      rw [hr, root_split.1] at h3
      exact absurd ((names_root h1 (List.prefix_nil.1 h3)).trans hr.symm) hne
    · obtain ⟨y, hy, hyp, hyd⟩ := right_par h hx hr
      have hu2 := under_par hu hne hr
      by_cases e : t = parD x.path
      · exact ⟨y, hy, by rw [hyp, e], hyd⟩
      · obtain ⟨d, n, _, hd, _, hN, hE⟩ := par_ex hs hr
        refine ih y ?_ hy (by rw [hyp]; exact hu2) (by rw [hyp]; exact e)
        rw [hyp, hd]
        rw [hN, List.length_append, List.length_cons] at hk
        omega

theorem above {xs : NS} (h : Right xs) {t : ByteArray} {x : Nd} (hx : x ∈ xs) (hu : underB t x.path = true) (hne : t ≠ x.path) : ∃ y ∈ xs, y.path = t ∧ y.dir = true := above_dir h _ x (Nat.le_refl _) hx hu hne

/-! ### a move -/
structure Mov (xs : NS) (f t : ByteArray) : Prop where
  right : Right xs
  pf : splitE f = 0
  rf : f ≠ rootP
  pt : splitE t = 0
  rt : t ≠ rootP
  ft : underB f t = false
  src : ∃ x ∈ xs, x.path = f
  par : ∃ y ∈ xs, y.path = parD t ∧ y.dir = true
  tgt : ∀ x ∈ xs, ∀ y ∈ xs, x.path = f → y.path = t → x.dir = false ∧ y.dir = false
  okm : ∀ x ∈ xs, underB f x.path = true → (moveX x.path f t).2 = 0

theorem Mov.moved {xs : NS} {f t : ByteArray} (h : Mov xs f t) {x : Nd} (hx : x ∈ xs) (hu : underB f x.path = true) : moveX x.path f t = ((movN f t x).path, 0) := by
  have := h.okm x hx hu
  unfold movN
  rw [← this]

/-- Nothing but itself stands under to. -/
theorem Mov.under_to {xs : NS} {f t : ByteArray} (h : Mov xs f t) {x : Nd} (hx : x ∈ xs) (hu : underB t x.path = true) : x.path = t := by
  by_cases e : t = x.path
  · exact e.symm
  · obtain ⟨y, hy, hyt, hyd⟩ := above h.right hx hu e
    obtain ⟨s, hs, hsf⟩ := h.src
    have := (h.tgt s hs y hy hsf hyt).2
    rw [this] at hyd; cases hyd

theorem Mov.apart {xs : NS} {f t : ByteArray} (h : Mov xs f t) : Apart (xs.filter (stayB f t) ++ (xs.filter (goesB f)).map (movN f t)) := by
  have hA := (right_asc h.right).apart
  unfold Apart
  rw [List.pairwise_append]
  refine ⟨List.Pairwise.filter _ hA, ?_, fun x hx y hy => ?_⟩
  · rw [List.pairwise_map]
    have h2 : (xs.filter (goesB f)).Pairwise (fun x y => x.path ≠ y.path) := List.Pairwise.filter _ hA
    refine List.Pairwise.imp_of_mem (fun {x y} hx hy e => ?_) h2
    obtain ⟨hx1, hx2⟩ := List.mem_filter.1 hx
    obtain ⟨hy1, hy2⟩ := List.mem_filter.1 hy
    intro e2
    have a1 := (move_back (h.moved hx1 hx2)).1
    have a2 := (move_back (h.moved hy1 hy2)).1
    rw [e2, a2] at a1
    exact e (Prod.mk.inj a1).1.symm
  · obtain ⟨hx1, hx2⟩ := List.mem_filter.1 hx
    obtain ⟨z, hz, rfl⟩ := List.mem_map.1 hy
    obtain ⟨hz1, hz2⟩ := List.mem_filter.1 hz
    intro e
    have a1 := (move_back (h.moved hz1 hz2)).2.1
    rw [← e] at a1
    unfold stayB at hx2
    simp only [Bool.and_eq_true, Bool.not_eq_true', decide_eq_false_iff_not] at hx2
    exact hx2.1 (h.under_to hx1 a1)

def movL (xs : NS) (f t : ByteArray) : NS := sortN (xs.filter (stayB f t) ++ (xs.filter (goesB f)).map (movN f t))

theorem mov_of {xs : NS} {f t : ByteArray} (h : MovE xs f t 0) : Mov xs f t := by
  cases h with
  | par e h1 h2 h3 h4 h5 h6 h7 h8 h9 => exact absurd rfl h9
  | ok h1 h2 h3 h4 h5 h6 h7 h8 h9 h10 =>
    have hA := (right_asc h1).apart
    refine ⟨h1, by simpa [pathB] using h2, h3, by simpa [pathB] using h4, h5, h6, at_ex.1 h7, dirE_ex h8, fun x hx y hy ex ey => ?_, h10⟩
    have e := h9 (at_ex.2 ⟨y, hy, ey⟩)
    rw [Bool.or_eq_false_iff] at e
    unfold isDir at e
    rw [decide_eq_false_iff_not, decide_eq_false_iff_not] at e
    rw [← ex, ← ey, dirE_of hA hx, dirE_of hA hy] at e
    constructor
    · cases hd : x.dir with
      | false => rfl
      | true => rw [hd] at e; exact absurd rfl e.1
    · cases hd : y.dir with
      | false => rfl
      | true => rw [hd] at e; exact absurd rfl e.2

end Go.Proofs.YtigomhilcnnjdaaGreat

/- Plain facts on trees: what Add, Remove and Move make is a tree; what is moved back. No program in it. -/
namespace Go.Proofs.YtigomhilcnnjdaaGreat
open Go.RowKit

theorem apart_more {xs : NS} {x : Nd} (h : Apart xs) (hx : at? xs x.path = none) : Apart (xs ++ [x]) := by
  unfold Apart
  rw [List.pairwise_append]
  refine ⟨h, List.pairwise_singleton _ _, fun y hy z hz => ?_⟩
  rw [List.mem_singleton.1 hz]
  exact at_none hx y hy

theorem under_root {p : ByteArray} (h : underB p rootP = true) : p = rootP := by
  obtain ⟨h1, _, h3⟩ := underB_iff.1 h
  rw [root_split.1] at h3
  exact names_root h1 (List.prefix_nil.1 h3)

theorem asc_filter {xs : NS} (h : Asc xs) (f : Nd → Bool) : Asc (xs.filter f) := List.Pairwise.filter _ h

/-- A node more. -/
theorem added {xs : NS} {x : Nd} (h : AddE xs x 0) : Right (sortN (xs ++ [x])) ∧ (sortN (xs ++ [x])).length = xs.length + 1 ∧ RemE (sortN (xs ++ [x])) x.path 0 ∧ leftL (sortN (xs ++ [x])) x.path = xs ∧ Right xs := by
  cases h with
  | par e h1 h2 h3 h4 h5 h6 => exact absurd rfl h6
  | ok h1 h2 h3 h4 h5 h6 =>
    have hA := (right_asc h1).apart
    have hS := sortN_asc (apart_more hA h4)
    have hl : (sortN (xs ++ [x])).length = xs.length + 1 := by rw [sortN_len, List.length_append]; rfl
    have hR : Right (sortN (xs ++ [x])) := by
      refine right_of hS (by omega) ?_ (fun y hy => ?_) (fun y hy hr => ?_)
      · obtain ⟨r, hr, hrp, _⟩ := right_root h1
        exact ⟨r, sortN_mem.2 (List.mem_append.2 (.inl hr)), hrp⟩
      · rcases List.mem_append.1 (sortN_mem.1 hy) with hy | hy
        · exact h1.fit y hy
        · rw [List.mem_singleton.1 hy]; exact h2
      · have : ∃ z ∈ xs, z.path = parD y.path ∧ z.dir = true := by
          rcases List.mem_append.1 (sortN_mem.1 hy) with hy | hy
          · exact right_par h1 hy hr
          · rw [List.mem_singleton.1 hy]; exact dirE_ex h5
        obtain ⟨z, hz, hz2⟩ := this
        exact ⟨z, sortN_mem.2 (List.mem_append.2 (.inl hz)), hz2⟩
    have hp := fits_path h2
    refine ⟨hR, hl, .ok hR (by unfold pathB; rw [hp]; rfl) h3 (at_ex.2 ⟨x, sortN_mem.2 (by simp), rfl⟩), ?_, h1⟩
    have hnu : ∀ y ∈ xs, (!underB x.path y.path) = true := fun y hy => by
      rw [Bool.not_eq_true', Bool.eq_false_iff]
      intro e
      by_cases e2 : x.path = y.path
      · exact at_none h4 y hy e2.symm
      · obtain ⟨z, hz, hzp, _⟩ := above h1 hy e e2
        exact at_none h4 z hz hzp
    have hx : (!underB x.path x.path) = false := by rw [under_self hp]; rfl
    have hperm : (leftL (sortN (xs ++ [x])) x.path).Perm xs := by
      unfold leftL
      refine ((sortN_perm _).filter _).trans ?_
      rw [List.filter_append, List.filter_eq_self.2 hnu]
      simp [hx]
    exact asc_unique hperm (asc_filter hS _) (right_asc h1)

/-- Less. -/
theorem removed {xs : NS} {p : ByteArray} (h : RemE xs p 0) : Right (leftL xs p) ∧ (leftL xs p).length < xs.length ∧ at? (leftL xs p) p = none := by
  cases h with
  | ok h1 h2 h3 h4 =>
    have hp : splitE p = 0 := by simpa [pathB] using h2
    have hmem : ∀ y, y ∈ leftL xs p ↔ y ∈ xs ∧ underB p y.path = false := fun y => by
      unfold leftL; rw [List.mem_filter, Bool.not_eq_true']
    refine ⟨right_of (asc_filter (right_asc h1) _) (Nat.le_trans (List.length_filter_le _ _) h1.few) ?_ (fun y hy => h1.fit y ((hmem y).1 hy).1) (fun y hy hr => ?_), ?_, ?_⟩
    · obtain ⟨r, hr, hrp, _⟩ := right_root h1
      refine ⟨r, (hmem r).2 ⟨hr, ?_⟩, hrp⟩
      rw [Bool.eq_false_iff, hrp]
      exact fun e => h3 (under_root e)
    · obtain ⟨hy1, hy2⟩ := (hmem y).1 hy
      obtain ⟨z, hz, hzp, hzd⟩ := right_par h1 hy1 hr
      exact ⟨z, (hmem z).2 ⟨hz, by rw [hzp]; exact par_not_under (fits_path (h1.fit y hy1)) hr hy2⟩, hzp, hzd⟩
    · obtain ⟨x, hx, hxp⟩ := at_ex.1 h4
      unfold leftL
      rw [List.length_filter_lt_length_iff_exists]
      exact ⟨x, hx, by rw [hxp, under_self hp]; simp⟩
    · refine at_no fun y hy e => ?_
      have := ((hmem y).1 hy).2
      rw [e, under_self hp] at this; cases this

theorem mov_names {p f t q : ByteArray} (h : moveX p f t = (q, 0)) : underB f p = true ∧ splitE t = 0 ∧ splitE q = 0 ∧ splitN q = splitN t ++ (splitN p).drop (splitN f).length := by
  unfold moveX at h
  split at h
  · rename_i hg
    obtain ⟨g, rfl⟩ := joinX_ok h
    exact ⟨hg.1, hg.2, splitE_good g, splitN_good g⟩
  · cases h

theorem fits_move {x : Nd} {q : ByteArray} (h : fitsB x = true) (hq : splitE q = 0) (hr : q ≠ rootP) : fitsB ⟨q, x.dir, x.quota, x.bs, x.wr⟩ = true := by
  unfold fitsB at *
  rw [Bool.and_eq_true] at h
  have h2 := h.2
  have hb : pathB q = true := by unfold pathB; rw [hq]; rfl
  simp only [hb, Bool.true_and]
  cases hd : x.dir with
  | true =>
    rw [hd] at h2
    simp only [if_true] at h2 ⊢
    exact h2
  | false =>
    rw [hd] at h2
    simp only [Bool.false_eq_true, if_false] at h2 ⊢
    unfold fileB headB at *
    simp only [Bool.and_eq_true, decide_eq_true_eq, Bool.not_eq_true', decide_eq_false_iff_not] at h2 ⊢
    exact ⟨⟨⟨⟨hr, h2.1.1.1.2⟩, h2.1.1.2⟩, h2.1.2⟩, h2.2⟩

theorem two_filters {α : Type} (p q : α → Bool) : ∀ (l : List α), (∀ x ∈ l, p x = true → q x = false) → (l.filter p).length + (l.filter q).length ≤ l.length
  | [], _ => by simp
  | x :: l, h => by
    have ih := two_filters p q l (fun y hy => h y (by simp [hy]))
    have hx := h x (by simp)
    rw [List.filter_cons, List.filter_cons]
    cases hp : p x with
    | true =>
      rw [hx hp]
      simp only [if_true, Bool.false_eq_true, if_false, List.length_cons]; omega
    | false =>
      simp only [Bool.false_eq_true, if_false, List.length_cons]
      split
      · simp only [List.length_cons]; omega
      · omega

theorem par_ne {t : ByteArray} (h : splitE t = 0) (hr : t ≠ rootP) : parD t ≠ t := by
  obtain ⟨d, n, _, hd, _, hN, _⟩ := par_ex h hr
  intro e
  rw [hd] at e
  rw [e] at hN
  have := congrArg List.length hN
  rw [List.length_append, List.length_cons] at this
  simp at this

section
variable {xs : NS} {f t : ByteArray}

theorem Mov.stayIff (x : Nd) : stayB f t x = true ↔ x.path ≠ t ∧ underB f x.path = false := by
  unfold stayB
  simp only [Bool.and_eq_true, Bool.not_eq_true', decide_eq_false_iff_not]

theorem Mov.mem (y : Nd) : y ∈ movL xs f t ↔ (y ∈ xs ∧ y.path ≠ t ∧ underB f y.path = false) ∨ ∃ x ∈ xs, underB f x.path = true ∧ y = movN f t x := by
  unfold movL
  rw [sortN_mem, List.mem_append, List.mem_filter, Mov.stayIff, List.mem_map]
  constructor
  · rintro (h | ⟨x, hx, rfl⟩)
    · exact .inl h
    · obtain ⟨h1, h2⟩ := List.mem_filter.1 hx
      exact .inr ⟨x, h1, h2, rfl⟩
  · rintro (h | ⟨x, h1, h2, rfl⟩)
    · exact .inl h
    · exact .inr ⟨x, List.mem_filter.2 ⟨h1, h2⟩, rfl⟩

theorem Mov.names (h : Mov xs f t) {x : Nd} (hx : x ∈ xs) (hu : underB f x.path = true) : splitE (movN f t x).path = 0 ∧ splitN (movN f t x).path = splitN t ++ (splitN x.path).drop (splitN f).length ∧ underB t (movN f t x).path = true :=
  have hm := h.moved hx hu
  ⟨(mov_names hm).2.2.1, (mov_names hm).2.2.2, (move_back hm).2.1⟩

theorem Mov.not_to (h : Mov xs f t) : underB t f = false := by
  rw [Bool.eq_false_iff]
  intro e
  obtain ⟨x, hx, hxf⟩ := h.src
  have := h.under_to hx (by rw [hxf]; exact e)
  rw [hxf] at this
  have h2 := h.ft
  rw [this, under_self h.pt] at h2; cases h2

theorem Mov.at_src (h : Mov xs f t) {x : Nd} (hx : x ∈ xs) (hxf : x.path = f) : (movN f t x).path = t := by
  obtain ⟨h1, h2, _⟩ := h.names hx (by rw [hxf]; exact under_self h.pf)
  refine path_eq h1 h.pt ?_
  rw [h2, hxf, List.drop_length, List.append_nil]

theorem Mov.tree (h : Mov xs f t) : Right (movL xs f t) ∧ at? (movL xs f t) t ≠ none ∧ at? (movL xs f t) f = none ∧ (movL xs f t).length ≤ xs.length := by
  have hS : Asc (movL xs f t) := sortN_asc h.apart
  have hl : (movL xs f t).length ≤ xs.length := by
    unfold movL
    rw [sortN_len, List.length_append, List.length_map]
    refine two_filters _ _ xs (fun x hx hs => ?_)
    have := (Mov.stayIff x).1 hs
    exact this.2
  refine ⟨right_of hS (Nat.le_trans hl h.right.few) ?_ (fun y hy => ?_) (fun y hy hr => ?_), ?_, ?_, hl⟩
  · obtain ⟨r, hr, hrp, _⟩ := right_root h.right
    refine ⟨r, (Mov.mem r).2 (.inl ⟨hr, ?_, ?_⟩), hrp⟩
    · rw [hrp]; exact h.rt.symm
    · rw [Bool.eq_false_iff, hrp]; exact fun e => h.rf (under_root e)
  · rcases (Mov.mem y).1 hy with ⟨hy1, _⟩ | ⟨x, hx, hu, rfl⟩
    · exact h.right.fit y hy1
    · obtain ⟨h1, h2, h3⟩ := h.names hx hu
      exact fits_move (h.right.fit x hx) h1 (fun e => h.rt (by have h4 := h3; rw [show (movN f t x).path = rootP from e] at h4; exact under_root h4))
  · rcases (Mov.mem y).1 hy with ⟨hy1, hy2, hy3⟩ | ⟨x, hx, hu, rfl⟩
    · obtain ⟨z, hz, hzp, hzd⟩ := right_par h.right hy1 hr
      refine ⟨z, (Mov.mem z).2 (.inl ⟨hz, fun e => ?_, ?_⟩), hzp, hzd⟩
      · obtain ⟨s, hs, hsf⟩ := h.src
        have := (h.tgt s hs z hz hsf e).2
        rw [this] at hzd; cases hzd
      · rw [hzp]; exact par_not_under (fits_path (h.right.fit y hy1)) hr hy3
    · obtain ⟨h1, h2, h3⟩ := h.names hx hu
      by_cases hxf : x.path = f
      · rw [h.at_src hx hxf]
        obtain ⟨z, hz, hzp, hzd⟩ := h.par
        refine ⟨z, (Mov.mem z).2 (.inl ⟨hz, ?_, ?_⟩), hzp, hzd⟩
        · rw [hzp]; exact par_ne h.pt h.rt
        · rw [hzp]; exact par_not_under h.pt h.rt h.ft
      · have hxr : x.path ≠ rootP := fun e => h.rf (by rw [e] at hu; exact under_root hu)
        obtain ⟨z, hz, hzp, hzd⟩ := right_par h.right hx hxr
        have hzu : underB f z.path = true := by rw [hzp]; exact under_par hu (fun e => hxf e.symm) hxr
        obtain ⟨k1, k2, k3⟩ := h.names hz hzu
        refine ⟨movN f t z, (Mov.mem _).2 (.inr ⟨z, hz, hzu, rfl⟩), ?_, hzd⟩
        obtain ⟨d, n, _, hd, _, hN, hE⟩ := par_ex (fits_path (h.right.fit x hx)) hxr
        obtain ⟨d2, n2, _, hd2, _, hN2, hE2⟩ := par_ex h1 hr
        rw [hd2]
        refine path_eq k1 hE2 ?_
        have hlen : (splitN f).length ≤ (splitN d).length := by
          have := (underB_iff.1 hzu).2.2.length_le
          rw [hzp, hd] at this; exact this
        rw [h2, hN, List.drop_append_of_le_length hlen, ← List.append_assoc] at hN2
        have := List.append_inj_left' hN2 rfl
        rw [k2, hzp, hd, this]
  · obtain ⟨x, hx, hxf⟩ := h.src
    exact at_ex.2 ⟨movN f t x, (Mov.mem _).2 (.inr ⟨x, hx, by rw [hxf]; exact under_self h.pf, rfl⟩), h.at_src hx hxf⟩
  · refine at_no fun y hy e => ?_
    rcases (Mov.mem y).1 hy with ⟨_, _, hy3⟩ | ⟨x, hx, hu, rfl⟩
    · rw [e, under_self h.pf] at hy3; cases hy3
    · have := (h.names hx hu).2.2
      rw [e, h.not_to] at this; cases this

theorem movE_of (h : Mov xs f t) : MovE xs f t 0 := by
  have hA := (right_asc h.right).apart
  refine .ok h.right (by unfold pathB; rw [h.pf]; rfl) h.rf (by unfold pathB; rw [h.pt]; rfl) h.rt h.ft (at_ex.2 h.src) ((dirE_zero hA).2 h.par) (fun e => ?_) h.okm
  obtain ⟨y, hy, hyt⟩ := at_ex.1 e
  obtain ⟨x, hx, hxf⟩ := h.src
  obtain ⟨h1, h2⟩ := h.tgt x hx y hy hxf hyt
  unfold isDir
  rw [← hxf, ← hyt, dirE_of hA hx, dirE_of hA hy, h1, h2]; rfl

/-- There and back. -/
theorem Mov.back (h : Mov xs f t) (hn : at? xs t = none) : Mov (movL xs f t) t f ∧ movL (movL xs f t) t f = xs := by
  obtain ⟨hR, ht1, hf1, hl⟩ := h.tree
  have hno : ∀ x ∈ xs, underB t x.path = false := fun x hx => by
    rw [Bool.eq_false_iff]
    intro e
    exact at_none hn x hx (h.under_to hx e)
  have hback : ∀ x ∈ xs, underB f x.path = true → moveX (movN f t x).path t f = (x.path, 0) := fun x hx hu => (move_back (h.moved hx hu)).1
  have hmm : ∀ x ∈ xs, underB f x.path = true → movN t f (movN f t x) = x := fun x hx hu => by
    have := hback x hx hu
    unfold movN at *
    rw [this]
  refine ⟨⟨hR, h.pt, h.rt, h.pf, h.rf, h.not_to, at_ex.1 ht1, ?_, fun x hx y hy ex ey => absurd ey (at_none hf1 y hy), fun x hx hu => ?_⟩, ?_⟩
  · obtain ⟨x, hx, hxf⟩ := h.src
    obtain ⟨z, hz, hzp, hzd⟩ := right_par h.right hx (by rw [hxf]; exact h.rf)
    rw [hxf] at hzp
    refine ⟨z, (Mov.mem z).2 (.inl ⟨hz, at_none hn z hz, ?_⟩), hzp, hzd⟩
    rw [hzp, Bool.eq_false_iff]
    intro e
    obtain ⟨d, n, _, hd, _, hN, hE⟩ := par_ex h.pf h.rf
    have := (underB_iff.1 e).2.2.length_le
    rw [hd, hN, List.length_append, List.length_cons] at this
    simp only [List.length_nil] at this
    omega
  · rcases (Mov.mem x).1 hx with ⟨hx1, _⟩ | ⟨z, hz, hzu, rfl⟩
    · rw [hno x hx1] at hu; cases hu
    · rw [hback z hz hzu]
  · have hsg : ∀ x ∈ xs, stayB f t x = !goesB f x := fun x hx => by
      unfold stayB goesB
      rw [decide_eq_false (at_none hn x hx)]; rfl
    have hS : xs.filter (stayB f t) = xs.filter (fun x => !goesB f x) := List.filter_congr hsg
    have a1 : (xs.filter (stayB f t)).filter (stayB t f) = xs.filter (stayB f t) := List.filter_eq_self.2 fun x hx => by
      obtain ⟨h1, h2⟩ := List.mem_filter.1 hx
      refine (Mov.stayIff x).2 ⟨fun e => ?_, hno x h1⟩
      have := ((Mov.stayIff x).1 h2).2
      rw [e, under_self h.pf] at this; cases this
    have a2 : ((xs.filter (goesB f)).map (movN f t)).filter (stayB t f) = [] := List.filter_eq_nil_iff.2 fun x hx => by
      obtain ⟨z, hz, rfl⟩ := List.mem_map.1 hx
      obtain ⟨h1, h2⟩ := List.mem_filter.1 hz
      intro e
      have := ((Mov.stayIff _).1 e).2
      rw [(h.names h1 h2).2.2] at this; cases this
    have a3 : (xs.filter (stayB f t)).filter (goesB t) = [] := List.filter_eq_nil_iff.2 fun x hx => by
      obtain ⟨h1, h2⟩ := List.mem_filter.1 hx
      show ¬ underB t x.path = true
      rw [hno x h1]; simp
    have a4 : ((xs.filter (goesB f)).map (movN f t)).filter (goesB t) = (xs.filter (goesB f)).map (movN f t) := List.filter_eq_self.2 fun x hx => by
      obtain ⟨z, hz, rfl⟩ := List.mem_map.1 hx
      obtain ⟨h1, h2⟩ := List.mem_filter.1 hz
      exact (h.names h1 h2).2.2
    have p1 : ((movL xs f t).filter (stayB t f)).Perm (xs.filter (stayB f t)) := by
      refine ((sortN_perm _).filter _).trans ?_
      rw [List.filter_append, a1, a2, List.append_nil]
    have p2 : ((movL xs f t).filter (goesB t)).Perm ((xs.filter (goesB f)).map (movN f t)) := by
      refine ((sortN_perm _).filter _).trans ?_
      rw [List.filter_append, a3, a4, List.nil_append]
    have p3 : (((movL xs f t).filter (goesB t)).map (movN t f)).Perm (xs.filter (goesB f)) := by
      refine (p2.map _).trans ?_
      rw [List.map_map]
      have e : (xs.filter (goesB f)).map (movN t f ∘ movN f t) = xs.filter (goesB f) := by
        conv => rhs; rw [← List.map_id (xs.filter (goesB f))]
        refine List.map_congr_left fun x hx => ?_
        obtain ⟨h1, h2⟩ := List.mem_filter.1 hx
        exact hmm x h1 h2
      rw [e]
    have p4 : ((movL xs f t).filter (stayB t f) ++ ((movL xs f t).filter (goesB t)).map (movN t f)).Perm xs := by
      refine (p1.append p3).trans ?_
      rw [hS]
      exact List.perm_append_comm.trans (List.filter_append_perm (goesB f) xs)
    conv => lhs; unfold movL
    exact (sortN_is p4.symm (right_asc h.right)).symm

end

end Go.Proofs.YtigomhilcnnjdaaGreat

/- Plain facts on trees: what stands in a directory, and its names. No program in it. -/
namespace Go.Proofs.YtigomhilcnnjdaaGreat
open Go.RowKit

theorem app_data (a b : ByteArray) : (a ++ b).data.toList = a.data.toList ++ b.data.toList := by simp

/-- What is called n in the directory d. -/
def kid (d n : ByteArray) : ByteArray := if d = rootP then ⟨#[47]⟩ ++ n else d ++ ⟨#[47]⟩ ++ n

theorem kid_root (n : ByteArray) : kid rootP n = ⟨#[47]⟩ ++ n := if_pos rfl
theorem kid_not {d : ByteArray} (h : d ≠ rootP) (n : ByteArray) : kid d n = d ++ ⟨#[47]⟩ ++ n := if_neg h

theorem kid_data {d n : ByteArray} (h : splitE d = 0) : (kid d n).data.toList = pathL (splitN d ++ [n]) := by
  by_cases hr : d = rootP
  · subst hr
    rw [kid_root, app_data, root_split.1, List.nil_append, pathL_cons, pathL_nil, List.append_nil]; rfl
  · have hne : splitN d ≠ [] := fun e => hr (names_root h e)
    have hd := splitX_ok h
    rw [pathT_ne hne] at hd
    rw [kid_not hr, app_data, app_data, pathL_app, pathL_cons, pathL_nil, List.append_nil]
    have e : d.data.toList = pathL (splitN d) := by rw [hd, mk_list, ← hd]
    rw [e]
    simp

theorem path_data {p : ByteArray} (h : splitE p = 0) (hr : p ≠ rootP) : p.data.toList = pathL (splitN p) := by
  have hne : splitN p ≠ [] := fun e => hr (names_root h e)
  have hd := splitX_ok h
  rw [pathT_ne hne] at hd
  rw [hd, mk_list, ← hd]

theorem kid_of {p d n : ByteArray} (h : parentX p = (d, n, 0)) : p = kid d n := by
  obtain ⟨h1, h2, h3, _⟩ := parent_ok h
  have hr : p ≠ rootP := by
    intro e
    rw [e, root_split.1] at h3
    have := congrArg List.length h3
    rw [List.length_append, List.length_cons] at this
    simp at this
  apply ba_inj
  rw [path_data h1 hr, kid_data h2, h3]

theorem kid_ne_root {d n : ByteArray} (hd : splitE d = 0) (hn : nameB n = true) : kid d n ≠ rootP := by
  intro e
  have h1 := congrArg (fun x : ByteArray => x.data.toList.length) e
  simp only [kid_data hd, pathL_app, List.length_append, pathL_cons, List.length_cons] at h1
  have h2 := (nameL_len hn).1
  have h3 : rootP.data.toList.length = 1 := rfl
  rw [h3] at h1
  omega

/-- The names of a path that is made so. -/
theorem kid_names {d n : ByteArray} (hd : splitE d = 0) (hn : nameB n = true) (hq : splitE (kid d n) = 0) : splitN (kid d n) = splitN d ++ [n] ∧ parD (kid d n) = d := by
  have hr := kid_ne_root hd hn
  have h1 := path_data hq hr
  rw [kid_data hd] at h1
  have c1 := cut_back (splitN d ++ [n]) (fun m hm => by
    rcases List.mem_append.1 hm with hm | hm
    · exact (split_ok hd).1.names m hm
    · rw [List.mem_singleton.1 hm]; exact hn)
  have c2 := cut_back (splitN (kid d n)) (split_ok hq).1.names
  rw [h1, c2] at c1
  have hN := Option.some.inj c1
  refine ⟨hN, ?_⟩
  obtain ⟨D, m, _, hD, _, hN2, hE2⟩ := par_ex hq hr
  rw [hD]
  rw [hN] at hN2
  exact (path_eq hd hE2 (List.append_inj_left' hN2 rfl)).symm

theorem bl_left : ∀ (l a b : List UInt8), Op.bytesLess (l ++ a) (l ++ b) = Op.bytesLess a b
  | [], _, _ => rfl
  | x :: l, a, b => by
    have ih := bl_left l a b
    cases h : Op.bytesLess a b with
    | true => exact (bl_cons ..).2 (.inr ⟨rfl, ih.trans h⟩)
    | false =>
      rw [List.cons_append, List.cons_append, Bool.eq_false_iff, ne_eq, bl_cons]
      rintro (e | ⟨_, e⟩)
      · omega
      · rw [ih, h] at e; cases e

theorem kid_lt {d n m : ByteArray} (hd : splitE d = 0) (h : ltB (kid d n) (kid d m) = true) : ltB n m = true := by
  unfold ltB at *
  rw [Lib.toList_data, Lib.toList_data] at *
  rw [kid_data hd, kid_data hd, pathL_app, pathL_app, bl_left, pathL_cons, pathL_cons, pathL_nil, List.append_nil, List.append_nil] at h
  rcases (bl_cons ..).1 h with e | ⟨_, e⟩
  · omega
  · exact e

theorem inB_iff {p : ByteArray} {x : Nd} : inB p x = true ↔ ∃ n, parentX x.path = (p, n, 0) := by
  unfold inB parD
  rw [Bool.and_eq_true, decide_eq_true_eq, decide_eq_true_eq]
  obtain ⟨⟨d, n, E⟩, h⟩ : ∃ y, parentX x.path = y := ⟨_, rfl⟩
  rw [h]
  constructor
  · rintro ⟨h1, h2⟩
    simp only at h1 h2
    subst h1 h2
    exact ⟨n, rfl⟩
  · rintro ⟨m, e⟩
    cases e
    exact ⟨rfl, rfl⟩

/-- The names rise. -/
theorem names_asc {xs : NS} (h : Asc xs) (p : ByteArray) : (namesL xs p).Pairwise (fun a b => ltB a b = true) := by
  unfold namesL
  rw [List.pairwise_map]
  have h2 : (xs.filter (inB p)).Pairwise (fun x y => ltB x.path y.path = true) := asc_filter h _
  refine List.Pairwise.imp_of_mem (fun {x y} hx hy e => ?_) h2
  obtain ⟨n, hn⟩ := inB_iff.1 (List.mem_filter.1 hx).2
  obtain ⟨m, hm⟩ := inB_iff.1 (List.mem_filter.1 hy).2
  have e1 : nameN x.path = n := by unfold nameN; rw [hn]
  have e2 : nameN y.path = m := by unfold nameN; rw [hm]
  rw [e1, e2]
  rw [kid_of hn, kid_of hm] at e
  exact kid_lt (parent_ok hn).2.1 e

/-- Each name is that of a node. -/
theorem names_at {xs : NS} {p n : ByteArray} (h : n ∈ namesL xs p) : at? xs (kid p n) ≠ none ∧ n.size ≤ 20 := by
  unfold namesL at h
  obtain ⟨x, hx, rfl⟩ := List.mem_map.1 h
  obtain ⟨h1, h2⟩ := List.mem_filter.1 hx
  obtain ⟨n, hn⟩ := inB_iff.1 h2
  have e1 : nameN x.path = n := by unfold nameN; rw [hn]
  rw [e1]
  exact ⟨at_ex.2 ⟨x, h1, kid_of hn⟩, (parent_ok hn).2.2.2.2.2.2⟩

/-! ### how many -/
def cntN (xs : NS) (x : Nd) : Nat := if x.dir then (namesL xs x.path).length else 0

theorem swap_sum (g : Nd → Nd → Bool) (zs : NS) : ∀ xs : NS, (zs.map (fun x => (xs.filter (g x)).length)).sum = (xs.map (fun y => (zs.filter (fun x => g x y)).length)).sum
  | [] => by
    simp only [List.filter_nil, List.length_nil, List.map_nil, List.sum_nil]
    induction zs with
    | nil => rfl
    | cons z zs ih => rw [List.map_cons, List.sum_cons, ih]; rfl
  | y :: xs => by
    rw [List.map_cons, List.sum_cons, ← swap_sum g zs xs]
    clear swap_sum
    induction zs with
    | nil => rfl
    | cons z zs ih =>
      rw [List.map_cons, List.sum_cons, List.map_cons, List.sum_cons, ih, List.filter_cons, List.filter_cons]
      cases g z y with
      | true => simp only [if_true, List.length_cons]; omega
      | false => simp only [Bool.false_eq_true, if_false]; omega

theorem one_filter {zs : NS} (ha : Apart zs) (q : Nd → Bool) {z : Nd} (hz : z ∈ zs) (hq : q z = true) (hu : ∀ y ∈ zs, q y = true → y.path = z.path) : (zs.filter q).length = 1 := by
  have h1 : Apart (zs.filter q) := List.Pairwise.filter _ ha
  have hm : z ∈ zs.filter q := List.mem_filter.2 ⟨hz, hq⟩
  match hf : zs.filter q, hm with
  | [a], _ => rfl
  | a :: b :: l, _ =>
    rw [hf] at h1
    have h2 := (List.pairwise_cons.1 h1).1 b (by simp)
    have ha' : a ∈ zs.filter q := by rw [hf]; simp
    have hb' : b ∈ zs.filter q := by rw [hf]; simp
    obtain ⟨a1, a2⟩ := List.mem_filter.1 ha'
    obtain ⟨b1, b2⟩ := List.mem_filter.1 hb'
    exact absurd ((hu a a1 a2).trans (hu b b1 b2).symm) h2

theorem sum_count : ∀ (l : NS) (f : Nd → Nat) (q : Nd → Bool), (∀ x ∈ l, f x = if q x then 1 else 0) → (l.map f).sum = (l.filter q).length
  | [], _, _, _ => rfl
  | x :: l, f, q, h => by
    rw [List.map_cons, List.sum_cons, sum_count l f q (fun y hy => h y (by simp [hy])), h x (by simp), List.filter_cons]
    cases q x with
    | true => simp only [if_true, List.length_cons]; omega
    | false => simp only [Bool.false_eq_true, if_false]; omega

/-- All names of all directories are all nodes but the root. -/
theorem count_all {xs : NS} (h : Right xs) : (xs.map (cntN xs)).sum + 1 = xs.length := by
  have hA := (right_asc h).apart
  have e1 : (xs.map (cntN xs)).sum = (xs.map (fun x => (xs.filter (fun y => x.dir && inB x.path y)).length)).sum := by
    congr 1
    refine List.map_congr_left fun x hx => ?_
    unfold cntN namesL
    cases x.dir with
    | true => simp
    | false =>
      symm
      simp only [Bool.false_and, Bool.false_eq_true, if_false]
      rw [List.length_eq_zero_iff, List.filter_eq_nil_iff]
      intro y _
      simp
  rw [e1, swap_sum (fun x y => x.dir && inB x.path y) xs xs]
  rw [sum_count xs _ (fun y => !decide (y.path = rootP)) (fun y hy => ?_)]
  · obtain ⟨r, hr, hrp, _⟩ := right_root h
    have h1 : (xs.filter (fun y => decide (y.path = rootP))).length = 1 := one_filter hA _ hr (by simp [hrp]) (fun y _ hq => by rw [hrp]; simpa using hq)
    have h2 := (List.filter_append_perm (fun y : Nd => decide (y.path = rootP)) xs).length_eq
    rw [List.length_append, h1] at h2
    omega
  · by_cases hr : y.path = rootP
    · rw [decide_eq_true hr]
      simp only [Bool.not_true, Bool.false_eq_true, if_false]
      rw [List.length_eq_zero_iff, List.filter_eq_nil_iff]
      intro x hx e
      rw [Bool.and_eq_true] at e
      obtain ⟨n, hn⟩ := inB_iff.1 e.2
      rw [hr] at hn
      have := (parent_ok hn).2.2.1
      rw [root_split.1] at this
      have := congrArg List.length this
      rw [List.length_append, List.length_cons] at this
      simp at this
    · rw [decide_eq_false hr]
      simp only [Bool.not_false, if_true]
      obtain ⟨z, hz, hzp, hzd⟩ := right_par h hy hr
      obtain ⟨d, n, hp, hd, _⟩ := par_ex (fits_path (h.fit y hy)) hr
      refine one_filter hA _ hz ?_ (fun x hx hq => ?_)
      · rw [hzd, Bool.true_and]
        exact inB_iff.2 ⟨n, by rw [hzp, hd]; exact hp⟩
      · rw [Bool.and_eq_true] at hq
        obtain ⟨m, hm⟩ := inB_iff.1 hq.2
        rw [hp] at hm
        cases hm
        rw [hzp, hd]

end Go.Proofs.YtigomhilcnnjdaaGreat

/- Plain facts on quotas: how many nodes stand under a path, which hold too much, how much one may still hold. No program in it. -/
namespace Go.Proofs.YtigomhilcnnjdaaGreat
open Go.RowKit

/-- How many stand under p. -/
def cntL (xs : NS) (p : ByteArray) : Nat := (xs.filter (fun x => underB p x.path)).length

/-- The first k of the path of these names and of each that it is under. -/
def upL (N : List ByteArray) (k : Nat) : List ByteArray := (List.range k).map (fun j => pathT (N.take (N.length - j)))

theorem upL_succ (N : List ByteArray) (k : Nat) : upL N (k + 1) = upL N k ++ [pathT (N.take (N.length - k))] := by
  unfold upL; rw [List.range_succ, List.map_append]; rfl
theorem upL_len (N : List ByteArray) (k : Nat) : (upL N k).length = k := by unfold upL; simp
/-- How often q is among them. -/
def cntT (ss : List ByteArray) (q : ByteArray) : Nat := (ss.filter (fun s => decide (s = q))).length
theorem cntT_app (a b : List ByteArray) (q : ByteArray) : cntT (a ++ b) q = cntT a q + cntT b q := by unfold cntT; rw [List.filter_append, List.length_append]
theorem cntT_one (s q : ByteArray) : cntT [s] q = if s = q then 1 else 0 := by
  unfold cntT
  by_cases h : s = q <;> simp [h]

theorem up_inj {N : List ByteArray} (g : Good N) {i j : Nat} (hi : i ≤ N.length) (hj : j ≤ N.length) (h : pathT (N.take (N.length - i)) = pathT (N.take (N.length - j))) : i = j := by
  have e := congrArg splitN h
  rw [splitN_good (good_take g _), splitN_good (good_take g _)] at e
  have := congrArg List.length e
  rw [List.length_take, List.length_take] at this
  omega

theorem up_count {N : List ByteArray} (g : Good N) (q : ByteArray) : ∀ k, k ≤ N.length + 1 → cntT (upL N k) q = if ∃ j, j < k ∧ pathT (N.take (N.length - j)) = q then 1 else 0
  | 0, _ => by
    rw [if_neg (by rintro ⟨j, hj, _⟩; omega)]; rfl
  | k + 1, hk => by
    rw [upL_succ, cntT_app, up_count g q k (by omega), cntT_one]
    by_cases h : pathT (N.take (N.length - k)) = q
    · have hn : ¬ ∃ j, j < k ∧ pathT (N.take (N.length - j)) = q := by
        rintro ⟨j, hj, e⟩
        have := up_inj g (by omega) (by omega) (e.trans h.symm)
        omega
      rw [if_neg hn, if_pos h, if_pos ⟨k, by omega, h⟩]
    · rw [if_neg h, Nat.add_zero]
      by_cases hx : ∃ j, j < k ∧ pathT (N.take (N.length - j)) = q
      · obtain ⟨j, hj, e⟩ := hx
        rw [if_pos ⟨j, hj, e⟩, if_pos ⟨j, by omega, e⟩]
      · rw [if_neg hx, if_neg]
        rintro ⟨j, hj, e⟩
        rcases Nat.lt_or_ge j k with h1 | h1
        · exact hx ⟨j, h1, e⟩
        · obtain rfl : j = k := by omega
          exact h e

theorem par_last {p d : ByteArray} (h : splitE p = 0) {m : Nat} (hl : (splitN p).length = m + 1) (hd : pathT ((splitN p).take m) = d) : ∃ n, parentX p = (d, n, 0) := by
  refine ⟨(splitN p)[m], ?_⟩
  rw [parentX_last h hl, hd]

/-- The line of a path: itself, and each that it is under. -/
def lineL (p : ByteArray) : List ByteArray := upL (splitN p) ((splitN p).length + 1)

theorem line_count {p : ByteArray} (h : splitE p = 0) (q : ByteArray) : cntT (lineL p) q = if underB q p then 1 else 0 := by
  have g := (split_ok h).1
  unfold lineL
  rw [up_count g q _ (Nat.le_refl _)]
  have e : (∃ j, j < (splitN p).length + 1 ∧ pathT ((splitN p).take ((splitN p).length - j)) = q) ↔ underB q p = true := by
    rw [underB_iff]
    constructor
    · rintro ⟨j, hj, rfl⟩
      have g2 := good_take g ((splitN p).length - j)
      exact ⟨splitE_good g2, h, by rw [splitN_good g2]; exact List.take_prefix _ _⟩
    · rintro ⟨h1, _, h3⟩
      have hl := h3.length_le
      refine ⟨(splitN p).length - (splitN q).length, by omega, ?_⟩
      rw [show (splitN p).length - ((splitN p).length - (splitN q).length) = (splitN q).length by omega, ← List.prefix_iff_eq_take.1 h3, ← splitX_ok h1]
  by_cases hu : underB q p = true
  · rw [if_pos (e.2 hu), if_pos hu]
  · rw [if_neg (fun x => hu (e.1 x)), if_neg hu]

theorem line_len (p : ByteArray) : (lineL p).length = (splitN p).length + 1 := upL_len _ _
theorem line_few (p : ByteArray) : (lineL p).length ≤ 7 := by rw [line_len]; have := @split_few p; omega
theorem line_small {p : ByteArray} (h : splitE p = 0) : ∀ s ∈ lineL p, s.size ≤ 120 := by
  intro s hs
  unfold lineL upL at hs
  obtain ⟨j, _, rfl⟩ := List.mem_map.1 hs
  exact pathT_small (good_take (split_ok h).1 _)

theorem cnt_nil (p : ByteArray) : cntL [] p = 0 := rfl
theorem cnt_app (xs ys : NS) (p : ByteArray) : cntL (xs ++ ys) p = cntL xs p + cntL ys p := by unfold cntL; rw [List.filter_append, List.length_append]
theorem cnt_one (x : Nd) (p : ByteArray) : cntL [x] p = if underB p x.path then 1 else 0 := by
  unfold cntL
  cases h : underB p x.path <;> simp [h]
theorem cnt_le (xs : NS) (p : ByteArray) : cntL xs p ≤ xs.length := List.length_filter_le _ _
theorem cnt_succ {xs : NS} {i : Nat} (hi : i < xs.length) (h : splitE xs[i].path = 0) (p : ByteArray) : cntL (xs.take (i + 1)) p = cntL (xs.take i) p + cntT (lineL xs[i].path) p := by
  rw [List.take_succ_eq_append_getElem hi, cnt_app, cnt_one, line_count h]
theorem cnt_paths {xs ys : NS} (h : xs.map (·.path) = ys.map (·.path)) (p : ByteArray) : cntL xs p = cntL ys p := by
  have e : ∀ zs : NS, cntL zs p = ((zs.map (·.path)).filter (fun q => underB p q)).length := fun zs => by
    unfold cntL; rw [List.filter_map, List.length_map]; rfl
  rw [e, e, h]

/-- A directory that holds more than its quota. -/
def overB (xs : NS) (x : Nd) : Bool := decide (0 ≤ x.quota) && decide (x.quota < (cntL xs x.path : Int))
def overL (xs : NS) : List ByteArray := (xs.filter (overB xs)).map (·.path)

/-- What is left. -/
def roomS (xs : NS) (p : ByteArray) (r : Int) (x : Nd) : Int := if 0 ≤ x.quota ∧ underB x.path p = true then min r (x.quota - (cntL xs x.path : Int)) else r
def roomF (xs : NS) (p : ByteArray) (r : Int) (l : NS) : Int := l.foldl (roomS xs p) r
def roomI (xs : NS) (p : ByteArray) : Int := if dirE xs p = 0 then max (roomF xs p (60 - (xs.length : Int)) xs) 0 else 0

theorem roomF_take (xs : NS) (p : ByteArray) (r : Int) {l : NS} {i : Nat} (hi : i < l.length) : roomF xs p r (l.take (i + 1)) = roomS xs p (roomF xs p r (l.take i)) l[i] := by
  unfold roomF
  rw [List.take_succ_eq_append_getElem hi, List.foldl_append]; rfl

/-- Where quotas are no greater than M, what is left stays within bounds. -/
theorem roomF_le (xs : NS) (p : ByteArray) : ∀ (l : NS) (r : Int), roomF xs p r l ≤ r
  | [], r => Int.le_refl _
  | x :: l, r => by
    refine Int.le_trans (roomF_le xs p l _) ?_
    unfold roomS
    split
    · exact Int.min_le_left _ _
    · exact Int.le_refl _
theorem roomF_ge (xs : NS) (p : ByteArray) : ∀ (l : NS) (r : Int), -(xs.length : Int) ≤ r → -(xs.length : Int) ≤ roomF xs p r l
  | [], r, h => h
  | x :: l, r, h => by
    refine roomF_ge xs p l _ ?_
    unfold roomS
    split
    · rename_i hc
      have := cnt_le xs x.path
      omega
    · exact h

/-- In a tree only directories have a quota. -/
theorem quota_dir {xs : NS} (h : Right xs) {x : Nd} (hx : x ∈ xs) (hq : 0 ≤ x.quota) : x.dir = true := by
  have hf := h.fit x hx
  cases hd : x.dir with
  | true => rfl
  | false =>
    unfold fitsB at hf
    rw [hd] at hf
    simp only [Bool.and_eq_true, Bool.false_eq_true, if_false] at hf
    have := hf.2
    unfold fileB headB at this
    simp only [Bool.and_eq_true, decide_eq_true_eq] at this
    have := this.1.1.1.2
    omega
theorem quota_most {xs : NS} (h : Right xs) {x : Nd} (hx : x ∈ xs) : -1 ≤ x.quota ∧ x.quota ≤ 9007199254740991 := by
  have hf := h.fit x hx
  unfold fitsB at hf
  cases hd : x.dir with
  | true =>
    rw [hd] at hf
    simp only [Bool.and_eq_true, if_true] at hf
    have := hf.2
    unfold dirB at this
    simp only [Bool.and_eq_true, decide_eq_true_eq] at this
    exact this.2
  | false =>
    rw [hd] at hf
    simp only [Bool.and_eq_true, Bool.false_eq_true, if_false] at hf
    have := hf.2
    unfold fileB headB at this
    simp only [Bool.and_eq_true, decide_eq_true_eq] at this
    have := this.1.1.1.2
    omega

/-- What does not stand in the tree has nothing under it. -/
theorem cnt_none {xs : NS} (h : Right xs) {p : ByteArray} (hp : at? xs p = none) : cntL xs p = 0 := by
  unfold cntL
  rw [List.length_eq_zero_iff, List.filter_eq_nil_iff]
  intro x hx hu
  by_cases e : p = x.path
  · exact at_none hp x hx e.symm
  · obtain ⟨y, hy, hyp, _⟩ := above h hx hu e
    exact at_none hp y hy hyp

end Go.Proofs.YtigomhilcnnjdaaGreat

/- The chapter's tree, in plain words. No program in it. -/
namespace Go.Proofs.YtigomhilcnnjdaaGreat
open Go.RowKit

theorem good_of {ns : List ByteArray} (h1 : ns.all nameB = true) (h2 : ns.length ≤ 6) (h3 : (pathL ns).length ≤ 120) : Good ns := ⟨List.all_eq_true.1 h1, h2, h3⟩
theorem exP {p : ByteArray} {ns : List ByteArray} (g : Good ns) (h : pathT ns = p) : splitX p = (ns, 0) := by rw [← h]; exact splitX_good g
theorem lit_le (s : ByteArray) (h : s.size ≤ 100) : s.size ≤ maxLen := by unfold maxLen; omega

def pA : ByteArray := ⟨#[47, 97]⟩
def pAX : ByteArray := ⟨#[47, 97, 47, 120]⟩
def pB : ByteArray := ⟨#[47, 98]⟩
def pAXY : ByteArray := ⟨#[47, 97, 47, 120, 47, 121]⟩
def pAB : ByteArray := ⟨#[47, 97, 47, 98]⟩
def pBC : ByteArray := ⟨#[47, 98, 47, 99]⟩
def pBCX : ByteArray := ⟨#[47, 98, 47, 99, 47, 120]⟩
def nA : ByteArray := ⟨#[97]⟩
def nB : ByteArray := ⟨#[98]⟩
def nC : ByteArray := ⟨#[99]⟩
def nX : ByteArray := ⟨#[120]⟩
def nY : ByteArray := ⟨#[121]⟩
def dirN (p : ByteArray) : Nd := ⟨p, true, -1, [], -1⟩
def fileN (p : ByteArray) : Nd := ⟨p, false, -1, [], -1⟩
def base0 : NS := [dirN rootP, dirN pA, fileN pAX, dirN pB]
def base1 : NS := [dirN rootP, dirN pB, dirN pBC, fileN pBCX]

theorem sR : splitX rootP = ([], 0) := exP good_nil rfl
theorem sA : splitX pA = ([nA], 0) := exP (good_of (by decide) (by decide) (by decide)) (by decide)
theorem sAX : splitX pAX = ([nA, nX], 0) := exP (good_of (by decide) (by decide) (by decide)) (by decide)
theorem sB : splitX pB = ([nB], 0) := exP (good_of (by decide) (by decide) (by decide)) (by decide)
theorem sAXY : splitX pAXY = ([nA, nX, nY], 0) := exP (good_of (by decide) (by decide) (by decide)) (by decide)
theorem sAB : splitX pAB = ([nA, nB], 0) := exP (good_of (by decide) (by decide) (by decide)) (by decide)
theorem sBC : splitX pBC = ([nB, nC], 0) := exP (good_of (by decide) (by decide) (by decide)) (by decide)
theorem sBCX : splitX pBCX = ([nB, nC, nX], 0) := exP (good_of (by decide) (by decide) (by decide)) (by decide)

theorem eOf {p : ByteArray} {ns : List ByteArray} (h : splitX p = (ns, 0)) : splitE p = 0 := by unfold splitE; rw [h]
theorem nOf {p : ByteArray} {ns : List ByteArray} (h : splitX p = (ns, 0)) : splitN p = ns := by unfold splitN; rw [h]
theorem bOf {p : ByteArray} {ns : List ByteArray} (h : splitX p = (ns, 0)) : pathB p = true := by unfold pathB; rw [eOf h]; rfl

theorem pxOf {p d n : ByteArray} {ns : List ByteArray} (h : splitX p = (ns ++ [n], 0)) (hd : pathT ns = d) : parentX p = (d, n, 0) := by
  unfold parentX
  rw [eOf h, nOf h]
  simp [hd]

theorem xA : parentX pA = (rootP, nA, 0) := pxOf (ns := []) sA rfl
theorem xAX : parentX pAX = (pA, nX, 0) := pxOf (ns := [nA]) sAX (by decide)
theorem xB : parentX pB = (rootP, nB, 0) := pxOf (ns := []) sB rfl
theorem xAXY : parentX pAXY = (pAX, nY, 0) := pxOf (ns := [nA, nX]) sAXY (by decide)
theorem xBC : parentX pBC = (pB, nC, 0) := pxOf (ns := [nB]) sBC (by decide)
theorem xR : (parentX rootP).2.2 = 1 := by
  unfold parentX
  rw [eOf sR, nOf sR]; rfl

theorem dOf {p d n : ByteArray} (h : parentX p = (d, n, 0)) : parD p = d := by unfold parD; rw [h]

theorem fits_dirN {p : ByteArray} {ns : List ByteArray} (h : splitX p = (ns, 0)) : fitsB (dirN p) = true := by
  unfold fitsB
  show (pathB p && dirB (dirN p)) = true
  rw [bOf h]
  unfold dirB dirN
  simp
theorem fits_fileN {p : ByteArray} {ns : List ByteArray} (h : splitX p = (ns, 0)) (hr : p ≠ rootP) : fitsB (fileN p) = true := by
  unfold fitsB
  show (pathB p && fileB (fileN p)) = true
  rw [bOf h]
  unfold fileB headB fileN
  simp [hr]

theorem lt_lit {a b : ByteArray} (h : Op.bytesLess a.data.toList b.data.toList = true) : ltB a b = true := by unfold ltB; rw [Lib.toList_data, Lib.toList_data]; exact h
theorem asc4 {a b c d : Nd} (h1 : ltB a.path b.path = true) (h2 : ltB b.path c.path = true) (h3 : ltB c.path d.path = true) : Asc [a, b, c, d] := by
  unfold Asc
  simp only [List.pairwise_cons, List.mem_cons, List.not_mem_nil, or_false]
  refine ⟨fun x hx => ?_, fun x hx => ?_, fun x hx => ?_, fun x hx => hx.elim, List.Pairwise.nil⟩
  · rcases hx with rfl | rfl | rfl
    · exact h1
    · exact ltB_trans h1 h2
    · exact ltB_trans (ltB_trans h1 h2) h3
  · rcases hx with rfl | rfl
    · exact h2
    · exact ltB_trans h2 h3
  · subst hx; exact h3

theorem right0 : Right base0 := by
  refine right_of ?_ (by decide) ⟨dirN rootP, by simp [base0], rfl⟩ ?_ ?_
  · exact asc4 (lt_lit (by decide)) (lt_lit (by decide)) (lt_lit (by decide))
  · intro x hx
    simp only [base0, List.mem_cons, List.mem_nil_iff, or_false] at hx
    rcases hx with rfl | rfl | rfl | rfl
    · exact fits_dirN sR
    · exact fits_dirN sA
    · exact fits_fileN sAX (by decide)
    · exact fits_dirN sB
  · intro x hx hr
    simp only [base0, List.mem_cons, List.mem_nil_iff, or_false] at hx
    rcases hx with rfl | rfl | rfl | rfl
    · exact absurd rfl hr
    · exact ⟨dirN rootP, by simp [base0], (dOf xA).symm, rfl⟩
    · exact ⟨dirN pA, by simp [base0], (dOf xAX).symm, rfl⟩
    · exact ⟨dirN rootP, by simp [base0], (dOf xB).symm, rfl⟩

theorem exL : ListE base0 rootP 0 := .ok right0 (bOf sR) (by decide)
theorem inB_of {p q d n : ByteArray} (x : Nd) (hx : x.path = p) (h : parentX p = (d, n, 0)) : inB q x = decide (d = q) := by
  unfold inB parD; rw [hx, h]; simp
theorem exN : namesL base0 rootP = [nA, nB] := by
  unfold namesL base0
  have i0 : inB rootP (dirN rootP) = false := by unfold inB; rw [show (dirN rootP).path = rootP from rfl, xR]; rfl
  have i1 : inB rootP (dirN pA) = true := (inB_of _ rfl xA).trans (by decide)
  have i2 : inB rootP (fileN pAX) = false := (inB_of _ rfl xAX).trans (by decide)
  have i3 : inB rootP (dirN pB) = true := (inB_of _ rfl xB).trans (by decide)
  simp only [List.filter, i0, i1, i2, i3, List.map]
  unfold nameN
  rw [show (dirN pA).path = pA from rfl, show (dirN pB).path = pB from rfl, xA, xB]

theorem exAdd : AddE base0 (fileN pAXY) 7 := .par 7 right0 (fits_fileN sAXY (by decide)) (by decide) (by decide) (by
  rw [show (fileN pAXY).path = pAXY from rfl, dOf xAXY]; decide) (by decide)

theorem uOf {p q : ByteArray} {ns ms : List ByteArray} (hp : splitX p = (ns, 0)) (hq : splitX q = (ms, 0)) : underB p q = decide (ms.take ns.length = ns) := by
  unfold underB
  rw [eOf hp, eOf hq, nOf hp, nOf hq]; rfl

theorem exM1 : MovE base0 pA pAB 1 := .arg (fun h => by
  have := h.2.2.2.2.2
  rw [uOf sA sAB] at this
  revert this; decide)

theorem mOf {p f t q : ByteArray} {ps fs ts : List ByteArray} (hp : splitX p = (ps, 0)) (hf : splitX f = (fs, 0)) (ht : splitX t = (ts, 0)) (hu : ps.take fs.length = fs) (hg : Good (ts ++ ps.drop fs.length)) (hq : pathT (ts ++ ps.drop fs.length) = q) : moveX p f t = (q, 0) := by
  unfold moveX
  rw [if_pos ⟨by rw [uOf hf hp, decide_eq_true hu], eOf ht⟩, nOf hp, nOf hf, nOf ht, joinX_good hg, hq]

theorem m1 : moveX pA pA pBC = (pBC, 0) := mOf sA sA sBC (by decide) (good_of (by decide) (by decide) (by decide)) (by decide)
theorem m2 : moveX pAX pA pBC = (pBCX, 0) := mOf sAX sA sBC (by decide) (good_of (by decide) (by decide) (by decide)) (by decide)
theorem u0 : underB pA rootP = false := (uOf sA sR).trans (by decide)
theorem u1 : underB pA pA = true := (uOf sA sA).trans (by decide)
theorem u2 : underB pA pAX = true := (uOf sA sAX).trans (by decide)
theorem u3 : underB pA pB = false := (uOf sA sB).trans (by decide)

theorem exM2 : MovE base0 pA pBC 0 := by
  refine .ok right0 (bOf sA) (by decide) (bOf sBC) (by decide) ((uOf sA sBC).trans (by decide)) (by decide) (by rw [dOf xBC]; decide) (fun h => absurd (by decide : at? base0 pBC = none) h) ?_
  intro x hx hu
  simp only [base0, List.mem_cons, List.mem_nil_iff, or_false] at hx
  rcases hx with rfl | rfl | rfl | rfl
  · rw [show (dirN rootP).path = rootP from rfl, u0] at hu; cases hu
  · rw [show (dirN pA).path = pA from rfl, m1]
  · rw [show (fileN pAX).path = pAX from rfl, m2]
  · rw [show (dirN pB).path = pB from rfl, u3] at hu; cases hu

theorem exML : movL base0 pA pBC = base1 := by
  unfold movL
  have h1 : base0.filter (stayB pA pBC) = [dirN rootP, dirN pB] := by
    unfold base0
    have i0 : stayB pA pBC (dirN rootP) = true := by unfold stayB; rw [show (dirN rootP).path = rootP from rfl, u0]; decide
    have i1 : stayB pA pBC (dirN pA) = false := by unfold stayB; rw [show (dirN pA).path = pA from rfl, u1]; decide
    have i2 : stayB pA pBC (fileN pAX) = false := by unfold stayB; rw [show (fileN pAX).path = pAX from rfl, u2]; decide
    have i3 : stayB pA pBC (dirN pB) = true := by unfold stayB; rw [show (dirN pB).path = pB from rfl, u3]; decide
    simp only [List.filter, i0, i1, i2, i3]
  have h2 : (base0.filter (goesB pA)).map (movN pA pBC) = [dirN pBC, fileN pBCX] := by
    unfold base0
    have i0 : goesB pA (dirN rootP) = false := u0
    have i1 : goesB pA (dirN pA) = true := u1
    have i2 : goesB pA (fileN pAX) = true := u2
    have i3 : goesB pA (dirN pB) = false := u3
    simp only [List.filter, i0, i1, i2, i3, List.map]
    unfold movN
    rw [show (dirN pA).path = pA from rfl, show (fileN pAX).path = pAX from rfl, m1, m2]; rfl
  rw [h1, h2]
  refine (sortN_is (List.Perm.refl _) ?_).symm
  exact asc4 (lt_lit (by decide)) (lt_lit (by decide)) (lt_lit (by decide))

end Go.Proofs.YtigomhilcnnjdaaGreat
