/- Plain facts on trees: what stands above, what is moved. No program in it. -/
import Derived.Test.YtlfehfajaelmlaaTreeOrd
namespace Go.Proofs.Ytlfehfajaelmlaa
open Go.RowKit

theorem at_ex {xs : NS} {p : ByteArray} : at? xs p ≠ none ↔ ∃ x ∈ xs, x.path = p := by
  constructor
  · intro h
    cases e : at? xs p with
    | none => exact absurd e h
    | some i =>
      obtain ⟨hi, h1, _⟩ := at_some e
      exact ⟨_, List.getElem_mem hi, h1⟩
  · rintro ⟨x, hx, rfl⟩ e
    exact at_none e x hx rfl

theorem at_none_iff {xs : NS} {p : ByteArray} : at? xs p = none ↔ ∀ x ∈ xs, x.path ≠ p := ⟨at_none, at_no⟩

theorem dirE_ex {xs : NS} {p : ByteArray} (h : dirE xs p = 0) : ∃ x ∈ xs, x.path = p ∧ x.dir = true := by
  unfold dirE at h
  cases e : at? xs p with
  | none => rw [e] at h; cases h
  | some i =>
    obtain ⟨hi, h1, _⟩ := at_some e
    rw [e] at h
    refine ⟨_, List.getElem_mem hi, h1, ?_⟩
    cases hd : xs[i].dir with
    | true => rfl
    | false => simp [List.getElem?_eq_getElem hi, hd] at h

theorem Apart.same {xs : NS} (h : Apart xs) {x y : Nd} (hx : x ∈ xs) (hy : y ∈ xs) (e : x.path = y.path) : x = y := by
  obtain ⟨i, hi, rfl⟩ := List.getElem_of_mem hx
  obtain ⟨j, hj, rfl⟩ := List.getElem_of_mem hy
  unfold Apart at h
  rw [List.pairwise_iff_getElem] at h
  rcases Nat.lt_trichotomy i j with hij | hij | hij
  · exact absurd e (h i j hi hj hij)
  · subst hij; rfl
  · exact absurd e.symm (h j i hj hi hij)

theorem dirE_of {xs : NS} (ha : Apart xs) {x : Nd} (hx : x ∈ xs) : dirE xs x.path = if x.dir then 0 else 7 := by
  unfold dirE
  cases e : at? xs x.path with
  | none => exact absurd rfl (at_none e x hx)
  | some i =>
    obtain ⟨hi, h1, _⟩ := at_some e
    have := ha.same (List.getElem_mem hi) hx h1
    simp [List.getElem?_eq_getElem hi, this]

theorem dirE_zero {xs : NS} (ha : Apart xs) {p : ByteArray} : dirE xs p = 0 ↔ ∃ x ∈ xs, x.path = p ∧ x.dir = true := by
  constructor
  · exact dirE_ex
  · rintro ⟨x, hx, rfl, hd⟩
    rw [dirE_of ha hx, hd]; rfl

/-! ### paths -/
theorem root_split : splitN rootP = [] ∧ splitE rootP = 0 := exR0
theorem path_eq {p q : ByteArray} (hp : splitE p = 0) (hq : splitE q = 0) (h : splitN p = splitN q) : p = q := by rw [splitX_ok hp, splitX_ok hq, h]
theorem names_root {p : ByteArray} (h : splitE p = 0) (hn : splitN p = []) : p = rootP := path_eq h root_split.2 (by rw [hn, root_split.1])

theorem par_ex {p : ByteArray} (h : splitE p = 0) (hr : p ≠ rootP) : ∃ d n, parentX p = (d, n, 0) ∧ parD p = d ∧ nameN p = n ∧ splitN p = splitN d ++ [n] ∧ splitE d = 0 := by
  cases hl : (splitN p).length with
  | zero => exact absurd (names_root h (List.length_eq_zero_iff.1 hl)) hr
  | succ m =>
    have e := parentX_last h hl
    obtain ⟨h1, h2, h3, _⟩ := parent_ok e
    exact ⟨_, _, e, by unfold parD; rw [e], by unfold nameN; rw [e], h3, h2⟩

theorem pathL_ltB_root {p : ByteArray} (h : splitE p = 0) (hr : p ≠ rootP) : ltB rootP p = true := by
  have hp := splitX_ok h
  have hne : splitN p ≠ [] := fun e => hr (names_root h e)
  cases hN : splitN p with
  | nil => exact absurd hN hne
  | cons n ns =>
    have hn : nameB n = true := (split_ok h).1.names n (by rw [hN]; simp)
    rw [hp, hN, pathT_ne (by simp)]
    unfold ltB
    rw [Lib.toList_data, Lib.toList_data, mk_list, pathL_cons]
    show Op.bytesLess [47] (47 :: (n.data.toList ++ pathL ns)) = true
    rw [bl_cons]
    right
    refine ⟨rfl, ?_⟩
    have hl := nameL_len hn
    cases hd : n.data.toList with
    | nil => rw [hd] at hl; simp at hl
    | cons b l => simp [Op.bytesLess]

theorem under_self {p : ByteArray} (h : splitE p = 0) : underB p p = true := underB_iff.2 ⟨h, h, List.prefix_refl _⟩
theorem under_par {t p : ByteArray} (h : underB t p = true) (hne : t ≠ p) (hr : p ≠ rootP) : underB t (parD p) = true := by
  obtain ⟨h1, h2, h3⟩ := underB_iff.1 h
  obtain ⟨d, n, _, hd, _, hN, hE⟩ := par_ex h2 hr
  rw [hd]
  refine underB_iff.2 ⟨h1, hE, ?_⟩
  rw [hN] at h3
  rcases List.prefix_concat_iff.1 h3 with e | e
  · exact absurd (path_eq h1 h2 (by rw [e, hN])) hne
  · exact e

/-- What stands under p but is not p has a parent under p. -/
theorem par_not_under {t p : ByteArray} (ht : splitE p = 0) (hr : p ≠ rootP) (h : underB t p = false) : underB t (parD p) = false := by
  rw [Bool.eq_false_iff] at *
  intro e
  obtain ⟨h1, h2, h3⟩ := underB_iff.1 e
  obtain ⟨d, n, _, hd, _, hN, hE⟩ := par_ex ht hr
  rw [hd] at h3
  exact h (underB_iff.2 ⟨h1, ht, by rw [hN]; exact h3.trans (List.prefix_append _ _)⟩)

/-! ### trees by what is in them -/
theorem right_root {xs : NS} (h : Right xs) : ∃ x ∈ xs, x.path = rootP ∧ x.dir = true := by
  have hp := h.pos
  refine ⟨xs[0], List.getElem_mem hp, h.root hp, ?_⟩
  have hf := h.fit _ (List.getElem_mem hp)
  cases hd : xs[0].dir with
  | true => rfl
  | false =>
    unfold fitsB at hf
    rw [hd] at hf
    simp only [Bool.and_eq_true, Bool.false_eq_true, if_false] at hf
    have := hf.2
    unfold fileB headB at this
    simp only [Bool.and_eq_true, Bool.not_eq_true', decide_eq_false_iff_not] at this
    exact absurd (h.root hp) this.1.1.1.1

theorem right_par {xs : NS} (h : Right xs) {x : Nd} (hx : x ∈ xs) (hr : x.path ≠ rootP) : ∃ y ∈ xs, y.path = parD x.path ∧ y.dir = true := by
  obtain ⟨i, hi, rfl⟩ := List.getElem_of_mem hx
  have h0 : 0 < i := by
    rcases Nat.eq_zero_or_pos i with rfl | h0
    · exact absurd (h.root hi) hr
    · exact h0
  exact dirE_ex (h.par i hi h0)

theorem right_of {ys : NS} (ha : Asc ys) (hfew : ys.length ≤ 60) (hroot : ∃ x ∈ ys, x.path = rootP) (hfit : ∀ x ∈ ys, fitsB x = true) (hpar : ∀ x ∈ ys, x.path ≠ rootP → ∃ y ∈ ys, y.path = parD x.path ∧ y.dir = true) : Right ys := by
  obtain ⟨r, hr, hrp⟩ := hroot
  have hpos : 0 < ys.length := List.length_pos_of_mem hr
  have hg := ha
  unfold Asc at hg
  rw [List.pairwise_iff_getElem] at hg
  have h0 : ys[0].path = rootP := by
    obtain ⟨j, hj, hjr⟩ := List.getElem_of_mem hr
    rcases Nat.eq_zero_or_pos j with rfl | hjp
    · rw [hjr]; exact hrp
    · have h1 := hg 0 j hpos hj hjp
      rw [hjr, hrp] at h1
      by_cases e : ys[0].path = rootP
      · exact e
      · have h2 := pathL_ltB_root (fits_path (hfit _ (List.getElem_mem hpos))) e
        rw [ltB_asymm h1] at h2; cases h2
  refine ⟨hpos, hfew, fun _ => h0, hfit, fun i hi => hg i (i + 1) _ hi (by omega), fun i hi hip => ?_⟩
  have hne : ys[i].path ≠ rootP := by
    intro e
    have := hg 0 i hpos hi hip
    rw [h0, e, ltB_irrefl] at this; cases this
  exact (dirE_zero ha.apart).2 (hpar _ (List.getElem_mem hi) hne)

/-- What something stands under is a directory of the tree. -/
theorem above_dir {xs : NS} (h : Right xs) {t : ByteArray} : ∀ (k : Nat) (x : Nd), (splitN x.path).length ≤ k → x ∈ xs → underB t x.path = true → t ≠ x.path → ∃ y ∈ xs, y.path = t ∧ y.dir = true := by
  intro k
  induction k with
  | zero =>
    intro x hk hx hu hne
    obtain ⟨h1, h2, h3⟩ := underB_iff.1 hu
    have e : splitN x.path = [] := List.length_eq_zero_iff.1 (by omega)
    rw [e] at h3
    exact absurd (path_eq h1 h2 (by rw [e]; exact List.prefix_nil.1 h3)) hne
  | succ k ih =>
    intro x hk hx hu hne
    have hs := fits_path (h.fit x hx)
    by_cases hr : x.path = rootP
    · obtain ⟨h1, h2, h3⟩ := underB_iff.1 hu
      rw [hr, root_split.1] at h3
      exact absurd ((names_root h1 (List.prefix_nil.1 h3)).trans hr.symm) hne
    · obtain ⟨y, hy, hyp, hyd⟩ := right_par h hx hr
      have hu2 := under_par hu hne hr
      by_cases e : t = parD x.path
      · exact ⟨y, hy, by rw [hyp, e], hyd⟩
      · obtain ⟨d, n, _, hd, _, hN, hE⟩ := par_ex hs hr
        refine ih y ?_ hy (by rw [hyp]; exact hu2) (by rw [hyp]; exact e)
        rw [hyp, hd]
        rw [hN, List.length_append, List.length_cons] at hk
        omega

theorem above {xs : NS} (h : Right xs) {t : ByteArray} {x : Nd} (hx : x ∈ xs) (hu : underB t x.path = true) (hne : t ≠ x.path) : ∃ y ∈ xs, y.path = t ∧ y.dir = true := above_dir h _ x (Nat.le_refl _) hx hu hne

/-! ### a move -/
structure Mov (xs : NS) (f t : ByteArray) : Prop where
  right : Right xs
  pf : splitE f = 0
  rf : f ≠ rootP
  pt : splitE t = 0
  rt : t ≠ rootP
  ft : underB f t = false
  src : ∃ x ∈ xs, x.path = f
  par : ∃ y ∈ xs, y.path = parD t ∧ y.dir = true
  tgt : ∀ x ∈ xs, ∀ y ∈ xs, x.path = f → y.path = t → x.dir = false ∧ y.dir = false
  okm : ∀ x ∈ xs, underB f x.path = true → (moveX x.path f t).2 = 0

theorem Mov.moved {xs : NS} {f t : ByteArray} (h : Mov xs f t) {x : Nd} (hx : x ∈ xs) (hu : underB f x.path = true) : moveX x.path f t = ((movN f t x).path, 0) := by
  have := h.okm x hx hu
  unfold movN
  rw [← this]

/-- Nothing but itself stands under to. -/
theorem Mov.under_to {xs : NS} {f t : ByteArray} (h : Mov xs f t) {x : Nd} (hx : x ∈ xs) (hu : underB t x.path = true) : x.path = t := by
  by_cases e : t = x.path
  · exact e.symm
  · obtain ⟨y, hy, hyt, hyd⟩ := above h.right hx hu e
    obtain ⟨s, hs, hsf⟩ := h.src
    have := (h.tgt s hs y hy hsf hyt).2
    rw [this] at hyd; cases hyd

theorem Mov.apart {xs : NS} {f t : ByteArray} (h : Mov xs f t) : Apart (xs.filter (stayB f t) ++ (xs.filter (goesB f)).map (movN f t)) := by
  have hA := (right_asc h.right).apart
  unfold Apart
  rw [List.pairwise_append]
  refine ⟨List.Pairwise.filter _ hA, ?_, fun x hx y hy => ?_⟩
  · rw [List.pairwise_map]
    have h2 : (xs.filter (goesB f)).Pairwise (fun x y => x.path ≠ y.path) := List.Pairwise.filter _ hA
    refine List.Pairwise.imp_of_mem (fun {x y} hx hy e => ?_) h2
    obtain ⟨hx1, hx2⟩ := List.mem_filter.1 hx
    obtain ⟨hy1, hy2⟩ := List.mem_filter.1 hy
    intro e2
    have a1 := (move_back (h.moved hx1 hx2)).1
    have a2 := (move_back (h.moved hy1 hy2)).1
    rw [e2, a2] at a1
    exact e (Prod.mk.inj a1).1.symm
  · obtain ⟨hx1, hx2⟩ := List.mem_filter.1 hx
    obtain ⟨z, hz, rfl⟩ := List.mem_map.1 hy
    obtain ⟨hz1, hz2⟩ := List.mem_filter.1 hz
    intro e
    have a1 := (move_back (h.moved hz1 hz2)).2.1
    rw [← e] at a1
    unfold stayB at hx2
    simp only [Bool.and_eq_true, Bool.not_eq_true', decide_eq_false_iff_not] at hx2
    exact hx2.1 (h.under_to hx1 a1)

def movL (xs : NS) (f t : ByteArray) : NS := sortN (xs.filter (stayB f t) ++ (xs.filter (goesB f)).map (movN f t))

theorem mov_of {xs : NS} {f t : ByteArray} (h : MovE xs f t 0) : Mov xs f t := by
  cases h with
  | par e h1 h2 h3 h4 h5 h6 h7 h8 h9 => exact absurd rfl h9
  | ok h1 h2 h3 h4 h5 h6 h7 h8 h9 h10 =>
    have hA := (right_asc h1).apart
    refine ⟨h1, by simpa [pathB] using h2, h3, by simpa [pathB] using h4, h5, h6, at_ex.1 h7, dirE_ex h8, fun x hx y hy ex ey => ?_, h10⟩
    have e := h9 (at_ex.2 ⟨y, hy, ey⟩)
    rw [Bool.or_eq_false_iff] at e
    unfold isDir at e
    rw [decide_eq_false_iff_not, decide_eq_false_iff_not] at e
    rw [← ex, ← ey, dirE_of hA hx, dirE_of hA hy] at e
    constructor
    · cases hd : x.dir with
      | false => rfl
      | true => rw [hd] at e; exact absurd rfl e.1
    · cases hd : y.dir with
      | false => rfl
      | true => rw [hd] at e; exact absurd rfl e.2

end Go.Proofs.Ytlfehfajaelmlaa
