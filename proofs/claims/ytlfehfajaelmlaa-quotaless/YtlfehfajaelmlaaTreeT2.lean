/- Plain facts on trees: what Add, Remove and Move make is a tree; what is moved back. No program in it. -/
import Derived.Test.YtlfehfajaelmlaaTreeT1
namespace Go.Proofs.Ytlfehfajaelmlaa
open Go.RowKit

theorem apart_more {xs : NS} {x : Nd} (h : Apart xs) (hx : at? xs x.path = none) : Apart (xs ++ [x]) := by
  unfold Apart
  rw [List.pairwise_append]
  refine ⟨h, List.pairwise_singleton _ _, fun y hy z hz => ?_⟩
  rw [List.mem_singleton.1 hz]
  exact at_none hx y hy

theorem under_root {p : ByteArray} (h : underB p rootP = true) : p = rootP := by
  obtain ⟨h1, _, h3⟩ := underB_iff.1 h
  rw [root_split.1] at h3
  exact names_root h1 (List.prefix_nil.1 h3)

theorem asc_filter {xs : NS} (h : Asc xs) (f : Nd → Bool) : Asc (xs.filter f) := List.Pairwise.filter _ h

/-- A node more. -/
theorem added {xs : NS} {x : Nd} (h : AddE xs x 0) : Right (sortN (xs ++ [x])) ∧ (sortN (xs ++ [x])).length = xs.length + 1 ∧ RemE (sortN (xs ++ [x])) x.path 0 ∧ leftL (sortN (xs ++ [x])) x.path = xs ∧ Right xs := by
  cases h with
  | par e h1 h2 h3 h4 h5 h6 => exact absurd rfl h6
  | ok h1 h2 h3 h4 h5 h6 =>
    have hA := (right_asc h1).apart
    have hS := sortN_asc (apart_more hA h4)
    have hl : (sortN (xs ++ [x])).length = xs.length + 1 := by rw [sortN_len, List.length_append]; rfl
    have hR : Right (sortN (xs ++ [x])) := by
      refine right_of hS (by omega) ?_ (fun y hy => ?_) (fun y hy hr => ?_)
      · obtain ⟨r, hr, hrp, _⟩ := right_root h1
        exact ⟨r, sortN_mem.2 (List.mem_append.2 (.inl hr)), hrp⟩
      · rcases List.mem_append.1 (sortN_mem.1 hy) with hy | hy
        · exact h1.fit y hy
        · rw [List.mem_singleton.1 hy]; exact h2
      · have : ∃ z ∈ xs, z.path = parD y.path ∧ z.dir = true := by
          rcases List.mem_append.1 (sortN_mem.1 hy) with hy | hy
          · exact right_par h1 hy hr
          · rw [List.mem_singleton.1 hy]; exact dirE_ex h5
        obtain ⟨z, hz, hz2⟩ := this
        exact ⟨z, sortN_mem.2 (List.mem_append.2 (.inl hz)), hz2⟩
    have hp := fits_path h2
    refine ⟨hR, hl, .ok hR (by unfold pathB; rw [hp]; rfl) h3 (at_ex.2 ⟨x, sortN_mem.2 (by simp), rfl⟩), ?_, h1⟩
    have hnu : ∀ y ∈ xs, (!underB x.path y.path) = true := fun y hy => by
      rw [Bool.not_eq_true', Bool.eq_false_iff]
      intro e
      by_cases e2 : x.path = y.path
      · exact at_none h4 y hy e2.symm
      · obtain ⟨z, hz, hzp, _⟩ := above h1 hy e e2
        exact at_none h4 z hz hzp
    have hx : (!underB x.path x.path) = false := by rw [under_self hp]; rfl
    have hperm : (leftL (sortN (xs ++ [x])) x.path).Perm xs := by
      unfold leftL
      refine ((sortN_perm _).filter _).trans ?_
      rw [List.filter_append, List.filter_eq_self.2 hnu]
      simp [hx]
    exact asc_unique hperm (asc_filter hS _) (right_asc h1)

/-- Less. -/
theorem removed {xs : NS} {p : ByteArray} (h : RemE xs p 0) : Right (leftL xs p) ∧ (leftL xs p).length < xs.length ∧ at? (leftL xs p) p = none := by
  cases h with
  | ok h1 h2 h3 h4 =>
    have hp : splitE p = 0 := by simpa [pathB] using h2
    have hmem : ∀ y, y ∈ leftL xs p ↔ y ∈ xs ∧ underB p y.path = false := fun y => by
      unfold leftL; rw [List.mem_filter, Bool.not_eq_true']
    refine ⟨right_of (asc_filter (right_asc h1) _) (Nat.le_trans (List.length_filter_le _ _) h1.few) ?_ (fun y hy => h1.fit y ((hmem y).1 hy).1) (fun y hy hr => ?_), ?_, ?_⟩
    · obtain ⟨r, hr, hrp, _⟩ := right_root h1
      refine ⟨r, (hmem r).2 ⟨hr, ?_⟩, hrp⟩
      rw [Bool.eq_false_iff, hrp]
      exact fun e => h3 (under_root e)
    · obtain ⟨hy1, hy2⟩ := (hmem y).1 hy
      obtain ⟨z, hz, hzp, hzd⟩ := right_par h1 hy1 hr
      exact ⟨z, (hmem z).2 ⟨hz, by rw [hzp]; exact par_not_under (fits_path (h1.fit y hy1)) hr hy2⟩, hzp, hzd⟩
    · obtain ⟨x, hx, hxp⟩ := at_ex.1 h4
      unfold leftL
      rw [List.length_filter_lt_length_iff_exists]
      exact ⟨x, hx, by rw [hxp, under_self hp]; simp⟩
    · refine at_no fun y hy e => ?_
      have := ((hmem y).1 hy).2
      rw [e, under_self hp] at this; cases this

theorem mov_names {p f t q : ByteArray} (h : moveX p f t = (q, 0)) : underB f p = true ∧ splitE t = 0 ∧ splitE q = 0 ∧ splitN q = splitN t ++ (splitN p).drop (splitN f).length := by
  unfold moveX at h
  split at h
  · rename_i hg
    obtain ⟨g, rfl⟩ := joinX_ok h
    exact ⟨hg.1, hg.2, splitE_good g, splitN_good g⟩
  · cases h

theorem fits_move {x : Nd} {q : ByteArray} (h : fitsB x = true) (hq : splitE q = 0) (hr : q ≠ rootP) : fitsB ⟨q, x.dir, x.quota, x.bs, x.wr⟩ = true := by
  unfold fitsB at *
  rw [Bool.and_eq_true] at h
  have h2 := h.2
  have hb : pathB q = true := by unfold pathB; rw [hq]; rfl
  simp only [hb, Bool.true_and]
  cases hd : x.dir with
  | true =>
    rw [hd] at h2
    simp only [if_true] at h2 ⊢
    exact h2
  | false =>
    rw [hd] at h2
    simp only [Bool.false_eq_true, if_false] at h2 ⊢
    unfold fileB headB at *
    simp only [Bool.and_eq_true, decide_eq_true_eq, Bool.not_eq_true', decide_eq_false_iff_not] at h2 ⊢
    exact ⟨⟨⟨⟨hr, h2.1.1.1.2⟩, h2.1.1.2⟩, h2.1.2⟩, h2.2⟩

theorem two_filters {α : Type} (p q : α → Bool) : ∀ (l : List α), (∀ x ∈ l, p x = true → q x = false) → (l.filter p).length + (l.filter q).length ≤ l.length
  | [], _ => by simp
  | x :: l, h => by
    have ih := two_filters p q l (fun y hy => h y (by simp [hy]))
    have hx := h x (by simp)
    rw [List.filter_cons, List.filter_cons]
    cases hp : p x with
    | true =>
      rw [hx hp]
      simp only [if_true, Bool.false_eq_true, if_false, List.length_cons]; omega
    | false =>
      simp only [Bool.false_eq_true, if_false, List.length_cons]
      split
      · simp only [List.length_cons]; omega
      · omega

theorem par_ne {t : ByteArray} (h : splitE t = 0) (hr : t ≠ rootP) : parD t ≠ t := by
  obtain ⟨d, n, _, hd, _, hN, _⟩ := par_ex h hr
  intro e
  rw [hd] at e
  rw [e] at hN
  have := congrArg List.length hN
  rw [List.length_append, List.length_cons] at this
  simp at this

section
variable {xs : NS} {f t : ByteArray}

theorem Mov.stayIff (x : Nd) : stayB f t x = true ↔ x.path ≠ t ∧ underB f x.path = false := by
  unfold stayB
  simp only [Bool.and_eq_true, Bool.not_eq_true', decide_eq_false_iff_not]

theorem Mov.mem (y : Nd) : y ∈ movL xs f t ↔ (y ∈ xs ∧ y.path ≠ t ∧ underB f y.path = false) ∨ ∃ x ∈ xs, underB f x.path = true ∧ y = movN f t x := by
  unfold movL
  rw [sortN_mem, List.mem_append, List.mem_filter, Mov.stayIff, List.mem_map]
  constructor
  · rintro (h | ⟨x, hx, rfl⟩)
    · exact .inl h
    · obtain ⟨h1, h2⟩ := List.mem_filter.1 hx
      exact .inr ⟨x, h1, h2, rfl⟩
  · rintro (h | ⟨x, h1, h2, rfl⟩)
    · exact .inl h
    · exact .inr ⟨x, List.mem_filter.2 ⟨h1, h2⟩, rfl⟩

theorem Mov.names (h : Mov xs f t) {x : Nd} (hx : x ∈ xs) (hu : underB f x.path = true) : splitE (movN f t x).path = 0 ∧ splitN (movN f t x).path = splitN t ++ (splitN x.path).drop (splitN f).length ∧ underB t (movN f t x).path = true :=
  have hm := h.moved hx hu
  ⟨(mov_names hm).2.2.1, (mov_names hm).2.2.2, (move_back hm).2.1⟩

theorem Mov.not_to (h : Mov xs f t) : underB t f = false := by
  rw [Bool.eq_false_iff]
  intro e
  obtain ⟨x, hx, hxf⟩ := h.src
  have := h.under_to hx (by rw [hxf]; exact e)
  rw [hxf] at this
  have h2 := h.ft
  rw [this, under_self h.pt] at h2; cases h2

theorem Mov.at_src (h : Mov xs f t) {x : Nd} (hx : x ∈ xs) (hxf : x.path = f) : (movN f t x).path = t := by
  obtain ⟨h1, h2, _⟩ := h.names hx (by rw [hxf]; exact under_self h.pf)
  refine path_eq h1 h.pt ?_
  rw [h2, hxf, List.drop_length, List.append_nil]

theorem Mov.tree (h : Mov xs f t) : Right (movL xs f t) ∧ at? (movL xs f t) t ≠ none ∧ at? (movL xs f t) f = none ∧ (movL xs f t).length ≤ xs.length := by
  have hS : Asc (movL xs f t) := sortN_asc h.apart
  have hl : (movL xs f t).length ≤ xs.length := by
    unfold movL
    rw [sortN_len, List.length_append, List.length_map]
    refine two_filters _ _ xs (fun x hx hs => ?_)
    have := (Mov.stayIff x).1 hs
    exact this.2
  refine ⟨right_of hS (Nat.le_trans hl h.right.few) ?_ (fun y hy => ?_) (fun y hy hr => ?_), ?_, ?_, hl⟩
  · obtain ⟨r, hr, hrp, _⟩ := right_root h.right
    refine ⟨r, (Mov.mem r).2 (.inl ⟨hr, ?_, ?_⟩), hrp⟩
    · rw [hrp]; exact h.rt.symm
    · rw [Bool.eq_false_iff, hrp]; exact fun e => h.rf (under_root e)
  · rcases (Mov.mem y).1 hy with ⟨hy1, _⟩ | ⟨x, hx, hu, rfl⟩
    · exact h.right.fit y hy1
    · obtain ⟨h1, h2, h3⟩ := h.names hx hu
      exact fits_move (h.right.fit x hx) h1 (fun e => h.rt (by have h4 := h3; rw [show (movN f t x).path = rootP from e] at h4; exact under_root h4))
  · rcases (Mov.mem y).1 hy with ⟨hy1, hy2, hy3⟩ | ⟨x, hx, hu, rfl⟩
    · obtain ⟨z, hz, hzp, hzd⟩ := right_par h.right hy1 hr
      refine ⟨z, (Mov.mem z).2 (.inl ⟨hz, fun e => ?_, ?_⟩), hzp, hzd⟩
      · obtain ⟨s, hs, hsf⟩ := h.src
        have := (h.tgt s hs z hz hsf e).2
        rw [this] at hzd; cases hzd
      · rw [hzp]; exact par_not_under (fits_path (h.right.fit y hy1)) hr hy3
    · obtain ⟨h1, h2, h3⟩ := h.names hx hu
      by_cases hxf : x.path = f
      · rw [h.at_src hx hxf]
        obtain ⟨z, hz, hzp, hzd⟩ := h.par
        refine ⟨z, (Mov.mem z).2 (.inl ⟨hz, ?_, ?_⟩), hzp, hzd⟩
        · rw [hzp]; exact par_ne h.pt h.rt
        · rw [hzp]; exact par_not_under h.pt h.rt h.ft
      · have hxr : x.path ≠ rootP := fun e => h.rf (by rw [e] at hu; exact under_root hu)
        obtain ⟨z, hz, hzp, hzd⟩ := right_par h.right hx hxr
        have hzu : underB f z.path = true := by rw [hzp]; exact under_par hu (fun e => hxf e.symm) hxr
        obtain ⟨k1, k2, k3⟩ := h.names hz hzu
        refine ⟨movN f t z, (Mov.mem _).2 (.inr ⟨z, hz, hzu, rfl⟩), ?_, hzd⟩
        obtain ⟨d, n, _, hd, _, hN, hE⟩ := par_ex (fits_path (h.right.fit x hx)) hxr
        obtain ⟨d2, n2, _, hd2, _, hN2, hE2⟩ := par_ex h1 hr
        rw [hd2]
        refine path_eq k1 hE2 ?_
        have hlen : (splitN f).length ≤ (splitN d).length := by
          have := (underB_iff.1 hzu).2.2.length_le
          rw [hzp, hd] at this; exact this
        rw [h2, hN, List.drop_append_of_le_length hlen, ← List.append_assoc] at hN2
        have := List.append_inj_left' hN2 rfl
        rw [k2, hzp, hd, this]
  · obtain ⟨x, hx, hxf⟩ := h.src
    exact at_ex.2 ⟨movN f t x, (Mov.mem _).2 (.inr ⟨x, hx, by rw [hxf]; exact under_self h.pf, rfl⟩), h.at_src hx hxf⟩
  · refine at_no fun y hy e => ?_
    rcases (Mov.mem y).1 hy with ⟨_, _, hy3⟩ | ⟨x, hx, hu, rfl⟩
    · rw [e, under_self h.pf] at hy3; cases hy3
    · have := (h.names hx hu).2.2
      rw [e, h.not_to] at this; cases this

theorem movE_of (h : Mov xs f t) : MovE xs f t 0 := by
  have hA := (right_asc h.right).apart
  refine .ok h.right (by unfold pathB; rw [h.pf]; rfl) h.rf (by unfold pathB; rw [h.pt]; rfl) h.rt h.ft (at_ex.2 h.src) ((dirE_zero hA).2 h.par) (fun e => ?_) h.okm
  obtain ⟨y, hy, hyt⟩ := at_ex.1 e
  obtain ⟨x, hx, hxf⟩ := h.src
  obtain ⟨h1, h2⟩ := h.tgt x hx y hy hxf hyt
  unfold isDir
  rw [← hxf, ← hyt, dirE_of hA hx, dirE_of hA hy, h1, h2]; rfl

/-- There and back. -/
theorem Mov.back (h : Mov xs f t) (hn : at? xs t = none) : Mov (movL xs f t) t f ∧ movL (movL xs f t) t f = xs := by
  obtain ⟨hR, ht1, hf1, hl⟩ := h.tree
  have hno : ∀ x ∈ xs, underB t x.path = false := fun x hx => by
    rw [Bool.eq_false_iff]
    intro e
    exact at_none hn x hx (h.under_to hx e)
  have hback : ∀ x ∈ xs, underB f x.path = true → moveX (movN f t x).path t f = (x.path, 0) := fun x hx hu => (move_back (h.moved hx hu)).1
  have hmm : ∀ x ∈ xs, underB f x.path = true → movN t f (movN f t x) = x := fun x hx hu => by
    have := hback x hx hu
    unfold movN at *
    rw [this]
  refine ⟨⟨hR, h.pt, h.rt, h.pf, h.rf, h.not_to, at_ex.1 ht1, ?_, fun x hx y hy ex ey => absurd ey (at_none hf1 y hy), fun x hx hu => ?_⟩, ?_⟩
  · obtain ⟨x, hx, hxf⟩ := h.src
    obtain ⟨z, hz, hzp, hzd⟩ := right_par h.right hx (by rw [hxf]; exact h.rf)
    rw [hxf] at hzp
    refine ⟨z, (Mov.mem z).2 (.inl ⟨hz, at_none hn z hz, ?_⟩), hzp, hzd⟩
    rw [hzp, Bool.eq_false_iff]
    intro e
    obtain ⟨d, n, _, hd, _, hN, hE⟩ := par_ex h.pf h.rf
    have := (underB_iff.1 e).2.2.length_le
    rw [hd, hN, List.length_append, List.length_cons] at this
    simp only [List.length_nil] at this
    omega
  · rcases (Mov.mem x).1 hx with ⟨hx1, _⟩ | ⟨z, hz, hzu, rfl⟩
    · rw [hno x hx1] at hu; cases hu
    · rw [hback z hz hzu]
  · have hsg : ∀ x ∈ xs, stayB f t x = !goesB f x := fun x hx => by
      unfold stayB goesB
      rw [decide_eq_false (at_none hn x hx)]; rfl
    have hS : xs.filter (stayB f t) = xs.filter (fun x => !goesB f x) := List.filter_congr hsg
    have a1 : (xs.filter (stayB f t)).filter (stayB t f) = xs.filter (stayB f t) := List.filter_eq_self.2 fun x hx => by
      obtain ⟨h1, h2⟩ := List.mem_filter.1 hx
      refine (Mov.stayIff x).2 ⟨fun e => ?_, hno x h1⟩
      have := ((Mov.stayIff x).1 h2).2
      rw [e, under_self h.pf] at this; cases this
    have a2 : ((xs.filter (goesB f)).map (movN f t)).filter (stayB t f) = [] := List.filter_eq_nil_iff.2 fun x hx => by
      obtain ⟨z, hz, rfl⟩ := List.mem_map.1 hx
      obtain ⟨h1, h2⟩ := List.mem_filter.1 hz
      intro e
      have := ((Mov.stayIff _).1 e).2
      rw [(h.names h1 h2).2.2] at this; cases this
    have a3 : (xs.filter (stayB f t)).filter (goesB t) = [] := List.filter_eq_nil_iff.2 fun x hx => by
      obtain ⟨h1, h2⟩ := List.mem_filter.1 hx
      show ¬ underB t x.path = true
      rw [hno x h1]; simp
    have a4 : ((xs.filter (goesB f)).map (movN f t)).filter (goesB t) = (xs.filter (goesB f)).map (movN f t) := List.filter_eq_self.2 fun x hx => by
      obtain ⟨z, hz, rfl⟩ := List.mem_map.1 hx
      obtain ⟨h1, h2⟩ := List.mem_filter.1 hz
      exact (h.names h1 h2).2.2
    have p1 : ((movL xs f t).filter (stayB t f)).Perm (xs.filter (stayB f t)) := by
      refine ((sortN_perm _).filter _).trans ?_
      rw [List.filter_append, a1, a2, List.append_nil]
    have p2 : ((movL xs f t).filter (goesB t)).Perm ((xs.filter (goesB f)).map (movN f t)) := by
      refine ((sortN_perm _).filter _).trans ?_
      rw [List.filter_append, a3, a4, List.nil_append]
    have p3 : (((movL xs f t).filter (goesB t)).map (movN t f)).Perm (xs.filter (goesB f)) := by
      refine (p2.map _).trans ?_
      rw [List.map_map]
      have e : (xs.filter (goesB f)).map (movN t f ∘ movN f t) = xs.filter (goesB f) := by
        conv => rhs; rw [← List.map_id (xs.filter (goesB f))]
        refine List.map_congr_left fun x hx => ?_
        obtain ⟨h1, h2⟩ := List.mem_filter.1 hx
        exact hmm x h1 h2
      rw [e]
    have p4 : ((movL xs f t).filter (stayB t f) ++ ((movL xs f t).filter (goesB t)).map (movN t f)).Perm xs := by
      refine (p1.append p3).trans ?_
      rw [hS]
      exact List.perm_append_comm.trans (List.filter_append_perm (goesB f) xs)
    conv => lhs; unfold movL
    exact (sortN_is p4.symm (right_asc h.right)).symm

end

end Go.Proofs.Ytlfehfajaelmlaa
