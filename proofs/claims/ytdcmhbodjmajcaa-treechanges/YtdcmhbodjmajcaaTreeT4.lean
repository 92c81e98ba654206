/- Plain facts on a move, node by node. No program in it. -/
import Derived.Test.YtdcmhbodjmajcaaTreeT2
import Derived.Test.YtdcmhbodjmajcaaTreeFE
namespace Go.Proofs.Ytdcmhbodjmajcaa
open Go.RowKit

def mvX (f t : ByteArray) (x : Nd) : Nd := if underB f x.path then movN f t x else x
theorem mvX_yes {f t : ByteArray} {x : Nd} (h : underB f x.path = true) : mvX f t x = movN f t x := by unfold mvX; rw [h]; rfl
theorem mvX_no {f t : ByteArray} {x : Nd} (h : underB f x.path = false) : mvX f t x = x := by unfold mvX; rw [h]; rfl
def preL (xs : NS) (f t : ByteArray) (i : Nat) : NS := ((xs.take i).filter (fun x => !decide (x.path = t))).map (mvX f t)

theorem pre_skip {xs : NS} {f t : ByteArray} {i : Nat} (hi : i < xs.length) (h : xs[i].path = t) : preL xs f t (i + 1) = preL xs f t i := by
  unfold preL
  rw [filter_take (fun x : Nd => !decide (x.path = t)) xs i hi, if_neg (by simp [h]), List.append_nil]
theorem pre_next {xs : NS} {f t : ByteArray} {i : Nat} (hi : i < xs.length) (h : xs[i].path ≠ t) : preL xs f t (i + 1) = preL xs f t i ++ [mvX f t xs[i]] := by
  unfold preL
  rw [filter_take (fun x : Nd => !decide (x.path = t)) xs i hi, if_pos (by simp [h]), List.map_append]
  rfl
theorem pre_len (xs : NS) (f t : ByteArray) (i : Nat) : (preL xs f t i).length ≤ i := by
  unfold preL
  rw [List.length_map]
  have h1 := List.length_filter_le (fun x : Nd => !decide (x.path = t)) (xs.take i)
  rw [List.length_take] at h1
  omega

theorem to_only {xs : NS} {f t : ByteArray} (hR : Right xs) (h9 : at? xs t ≠ none → (isDir xs f || isDir xs t) = false) : ∀ x ∈ xs, underB t x.path = true → x.path = t := by
  intro x hx hu
  by_cases e : t = x.path
  · exact e.symm
  · obtain ⟨y, hy, hyt, hyd⟩ := above hR hx hu e
    have h1 := h9 (at_ex.2 ⟨y, hy, hyt⟩)
    rw [Bool.or_eq_false_iff] at h1
    have h2 := h1.2
    unfold isDir at h2
    rw [← hyt, dirE_of (right_asc hR).apart hy, hyd] at h2
    simp at h2

theorem moved_of {p f t : ByteArray} (h : (moveX p f t).2 = 0) : moveX p f t = ((moveX p f t).1, 0) := by rw [← h]

theorem pre_apart {xs : NS} {f t : ByteArray} (hR : Right xs) (hto : ∀ x ∈ xs, underB t x.path = true → x.path = t) (i : Nat) (hok : ∀ x ∈ xs.take i, underB f x.path = true → (moveX x.path f t).2 = 0) : Apart (preL xs f t i) := by
  have hA := (right_asc hR).apart
  unfold Apart preL
  rw [List.pairwise_map]
  have h2 : ((xs.take i).filter (fun x : Nd => !decide (x.path = t))).Pairwise (fun x y => x.path ≠ y.path) := List.Pairwise.filter _ (List.Pairwise.take hA)
  refine List.Pairwise.imp_of_mem (fun {x y} hx hy e => ?_) h2
  obtain ⟨hx1, hx2⟩ := List.mem_filter.1 hx
  obtain ⟨hy1, hy2⟩ := List.mem_filter.1 hy
  have hx3 : x.path ≠ t := by simpa using hx2
  have hy3 : y.path ≠ t := by simpa using hy2
  have hx0 := List.mem_of_mem_take hx1
  have hy0 := List.mem_of_mem_take hy1
  cases ux : underB f x.path with
  | true =>
    have mx := moved_of (hok x hx1 ux)
    have ax := move_back mx
    rw [mvX_yes ux]
    cases uy : underB f y.path with
    | true =>
      have my := moved_of (hok y hy1 uy)
      have ay := move_back my
      rw [mvX_yes uy]
      intro e2
      have e3 : (moveX x.path f t).1 = (moveX y.path f t).1 := e2
      have a1 := ax.1
      rw [e3, ay.1] at a1
      exact e (Prod.mk.inj a1).1.symm
    | false =>
      rw [mvX_no uy]
      intro e2
      have e3 : (moveX x.path f t).1 = y.path := e2
      have a1 := ax.2.1
      rw [e3] at a1
      exact hy3 (hto y hy0 a1)
  | false =>
    rw [mvX_no ux]
    cases uy : underB f y.path with
    | true =>
      have my := moved_of (hok y hy1 uy)
      have ay := move_back my
      rw [mvX_yes uy]
      intro e2
      have e3 : x.path = (moveX y.path f t).1 := e2
      have a1 := ay.2.1
      rw [← e3] at a1
      exact hx3 (hto x hx0 a1)
    | false =>
      rw [mvX_no uy]
      exact e

theorem apart_last {l : NS} {x : Nd} (h : Apart (l ++ [x])) : at? (sortN l) x.path = none ∧ Asc (sortN l) ∧ sortN (sortN l ++ [x]) = sortN (l ++ [x]) := by
  have h' := h
  unfold Apart at h'
  rw [List.pairwise_append] at h'
  have hl : Apart l := h'.1
  have hat : at? (sortN l) x.path = none := at_no fun y hy => h'.2.2 y (sortN_mem.1 hy) x (List.mem_singleton.2 rfl)
  refine ⟨hat, sortN_asc hl, ?_⟩
  exact sortN_is ((sortN_perm _).trans (List.Perm.append_right [x] (sortN_perm l))) (sortN_asc (apart_snoc (sortN_asc hl).apart hat))

theorem pre_perm (f t : ByteArray) : ∀ l : NS, (∀ x ∈ l, x.path = t → underB f x.path = false) → ((l.filter (fun x => !decide (x.path = t))).map (mvX f t)).Perm (l.filter (stayB f t) ++ (l.filter (goesB f)).map (movN f t)) := by
  intro l
  induction l with
  | nil => intro _; exact List.Perm.refl _
  | cons x l ih =>
    intro h
    have ih' := ih (fun y hy => h y (List.mem_cons_of_mem _ hy))
    by_cases hx : x.path = t
    · have hu := h x (List.mem_cons_self ..) hx
      have s1 : stayB f t x = false := by unfold stayB; simp [hx]
      have s2 : goesB f x = false := hu
      rw [List.filter_cons_of_neg (by simp [hx]), List.filter_cons_of_neg (by simp [s1]), List.filter_cons_of_neg (by simp [s2])]
      exact ih'
    · rw [List.filter_cons_of_pos (by simp [hx]), List.map_cons]
      cases hu : underB f x.path with
      | true =>
        have s1 : stayB f t x = false := by unfold stayB; simp [hu]
        have s2 : goesB f x = true := hu
        rw [List.filter_cons_of_neg (by simp [s1]), List.filter_cons_of_pos s2, List.map_cons, mvX_yes hu]
        exact (List.Perm.cons _ ih').trans List.perm_middle.symm
      | false =>
        have s1 : stayB f t x = true := by unfold stayB; simp [hu, hx]
        have s2 : goesB f x = false := hu
        rw [List.filter_cons_of_pos s1, List.filter_cons_of_neg (by simp [s2]), mvX_no hu, List.cons_append]
        exact List.Perm.cons _ ih'

theorem pre_all {xs : NS} {f t : ByteArray} (hR : Right xs) (hto : ∀ x ∈ xs, underB t x.path = true → x.path = t) (hft : underB f t = false) (hok : ∀ x ∈ xs, underB f x.path = true → (moveX x.path f t).2 = 0) (i : Nat) (hi : xs.length ≤ i) : sortN (preL xs f t i) = movL xs f t := by
  have ht : xs.take i = xs := List.take_of_length_le hi
  have hA := pre_apart hR hto i (by rw [ht]; exact hok)
  unfold movL
  refine sortN_is ((sortN_perm _).trans ?_) (sortN_asc hA)
  unfold preL
  rw [ht]
  exact pre_perm f t xs (fun x _ hx => by rw [hx]; exact hft)

theorem find_eq {xs : NS} (hA : Apart xs) (t : ByteArray) {i : Nat} (hi : i < xs.length) : ((i : Int) == findI xs t) = decide (xs[i].path = t) := by
  rcases findI_cases xs t with ⟨f1, f2, _⟩ | ⟨k, f1, f2, hk, _⟩
  · rw [f2, decide_eq_false (at_none f1 _ (List.getElem_mem hi))]
    rw [beq_eq_false_iff_ne]
    omega
  · rw [f2]
    obtain ⟨_, h1, _⟩ := at_some f1
    by_cases e : xs[i].path = t
    · rw [decide_eq_true e, beq_iff_eq]
      unfold Apart at hA
      rw [List.pairwise_iff_getElem] at hA
      rcases Nat.lt_trichotomy i k with h | h | h
      · exact absurd (e.trans h1.symm) (hA i k hi hk h)
      · rw [h]
      · exact absurd (h1.trans e.symm) (hA k i hk hi h)
    · rw [decide_eq_false e, beq_eq_false_iff_ne]
      intro e2
      have : i = k := by omega
      subst this
      exact e h1

end Go.Proofs.Ytdcmhbodjmajcaa
