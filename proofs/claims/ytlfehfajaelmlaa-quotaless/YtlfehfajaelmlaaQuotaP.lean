/- Plain facts on quotas: what the parts of a directory count; without quotas; with a less one. No program in it. -/
import Derived.Test.YtlfehfajaelmlaaQuotaM
import Derived.Test.YtlfehfajaelmlaaTreeF3
namespace Go.Proofs.Ytlfehfajaelmlaa
open Go.RowKit

theorem filter_two {α : Type} (p r : α → Bool) : ∀ l : List α, (l.filter p).length = (l.filter (fun x => p x && r x)).length + (l.filter (fun x => p x && !r x)).length
  | [] => rfl
  | x :: l => by
    have ih := filter_two p r l
    rw [List.filter_cons, List.filter_cons, List.filter_cons]
    cases p x <;> cases r x <;> simp <;> omega

/-- A directory counts itself, and what all that stands in it counts. -/
theorem cnt_kids {xs : NS} (h : Right xs) {x : Nd} (hx : x ∈ xs) : cntL xs x.path = 1 + ((xs.filter (inB x.path)).map (fun y => cntL xs y.path)).sum := by
  have hA := (right_asc h).apart
  have hxp := fits_path (h.fit x hx)
  have hKA : Apart (xs.filter (inB x.path)) := List.Pairwise.filter _ hA
  have e1 : ((xs.filter (inB x.path)).map (fun y => cntL xs y.path)).sum = (xs.map (fun z => ((xs.filter (inB x.path)).filter (fun y => underB y.path z.path)).length)).sum :=
    swap_sum (fun y z => underB y.path z.path) (xs.filter (inB x.path)) xs
  rw [e1, sum_count xs _ (fun z => underB x.path z.path && !decide (z.path = x.path)) (fun z hz => ?_)]
  · unfold cntL
    rw [filter_two (fun z => underB x.path z.path) (fun z => decide (z.path = x.path)) xs]
    congr 1
    refine one_filter hA _ hx (by simp [under_self hxp]) (fun y _ hq => ?_)
    simp only [Bool.and_eq_true, decide_eq_true_eq] at hq
    exact hq.2
  · have hzp := fits_path (h.fit z hz)
    by_cases hq : (underB x.path z.path && !decide (z.path = x.path)) = true
    · rw [if_pos hq]
      simp only [Bool.and_eq_true, Bool.not_eq_true', decide_eq_false_iff_not] at hq
      obtain ⟨hu, hne⟩ := hq
      obtain ⟨_, _, hpre⟩ := underB_iff.1 hu
      have hlen : (splitN x.path).length < (splitN z.path).length := by
        rcases Nat.lt_or_ge (splitN x.path).length (splitN z.path).length with hl | hl
        · exact hl
        · exact absurd (path_eq hzp hxp (hpre.eq_of_length (Nat.le_antisymm hpre.length_le hl)).symm) hne
      have g := (split_ok hzp).1
      have g2 := good_take g ((splitN x.path).length + 1)
      have hN := splitN_good g2
      have hE := splitE_good g2
      have hut : underB (pathT ((splitN z.path).take ((splitN x.path).length + 1))) z.path = true := underB_iff.2 ⟨hE, hzp, by rw [hN]; exact List.take_prefix _ _⟩
      have hpar : ∃ n, parentX (pathT ((splitN z.path).take ((splitN x.path).length + 1))) = (x.path, n, 0) := by
        have hl : (splitN (pathT ((splitN z.path).take ((splitN x.path).length + 1)))).length = (splitN x.path).length + 1 := by rw [hN, List.length_take]; omega
        refine par_last hE hl ?_
        rw [hN, List.take_take, show min (splitN x.path).length ((splitN x.path).length + 1) = (splitN x.path).length by omega, ← List.prefix_iff_eq_take.1 hpre, ← splitX_ok hxp]
      have hy : ∃ y ∈ xs, y.path = pathT ((splitN z.path).take ((splitN x.path).length + 1)) := by
        by_cases e : pathT ((splitN z.path).take ((splitN x.path).length + 1)) = z.path
        · exact ⟨z, hz, e.symm⟩
        · obtain ⟨y, hy, hyp, _⟩ := above h hz hut e
          exact ⟨y, hy, hyp⟩
      obtain ⟨y, hy, hyp⟩ := hy
      refine one_filter hKA _ (z := y) (List.mem_filter.2 ⟨hy, inB_iff.2 (by rw [hyp]; exact hpar)⟩) (by rw [hyp]; exact hut) (fun y' hy' hq => ?_)
      obtain ⟨n', hn'⟩ := inB_iff.1 (List.mem_filter.1 hy').2
      obtain ⟨p1, p2, p3, _⟩ := parent_ok hn'
      obtain ⟨_, _, hpre'⟩ := underB_iff.1 hq
      rw [hyp]
      refine path_eq p1 hE ?_
      rw [hN]
      have := List.prefix_iff_eq_take.1 hpre'
      rw [this, p3, List.length_append]
      rfl
    · rw [if_neg hq, List.length_eq_zero_iff, List.filter_eq_nil_iff]
      intro y hy hu
      apply hq
      obtain ⟨n, hn⟩ := inB_iff.1 (List.mem_filter.1 hy).2
      obtain ⟨u1, u2, u3, _⟩ := parent_unders hn
      simp only [Bool.and_eq_true, Bool.not_eq_true', decide_eq_false_iff_not]
      refine ⟨under_trans u1 hu, fun e => ?_⟩
      rw [e] at hu
      rw [hu] at u3; cases u3

/-- What a file counts, and its names. -/
theorem cnt_names {xs : NS} (h : Right xs) {x : Nd} (hx : x ∈ xs) {E : Int} (hE : ListE xs x.path E) : cntL xs x.path = 1 + ((listL xs x.path E).map (fun n => cntL xs (kid x.path n))).sum := by
  have hA := (right_asc h).apart
  rw [cnt_kids h hx]
  congr 2
  by_cases e : E = 0
  · unfold listL namesL
    rw [if_pos e, List.map_map]
    refine List.map_congr_left fun y hy => ?_
    obtain ⟨n, hn⟩ := inB_iff.1 (List.mem_filter.1 hy).2
    have e1 : nameN y.path = n := by unfold nameN; rw [hn]
    show _ = cntL xs (kid x.path (nameN y.path))
    rw [e1, ← kid_of hn]
  · have e2 : xs.filter (inB x.path) = [] := by
      rw [List.filter_eq_nil_iff]
      intro y hy hin
      obtain ⟨n, hn⟩ := inB_iff.1 hin
      have hr : y.path ≠ rootP := by
        intro er
        have := (parent_ok hn).2.2.1
        rw [er, root_split.1] at this
        have := congrArg List.length this
        rw [List.length_append, List.length_cons] at this
        simp at this
      obtain ⟨z, hz, hzp, hzd⟩ := right_par h hy hr
      have hd : parD y.path = x.path := by unfold parD; rw [hn]
      have hzx := hA.same hz hx (hzp.trans hd)
      subst hzx
      have hdir : dirE xs z.path = 0 := by rw [dirE_of hA hz, hzd]; rfl
      have hpb : pathB z.path = true := by unfold pathB; rw [fits_path (h.fit z hz)]; rfl
      cases hE with
      | arg hn2 => rw [hn2 h] at hpb; cases hpb
      | dir e' h1 h2 h3 h4 => rw [hdir] at h3; exact e h3.symm
      | ok h1 h2 h3 => exact e rfl
    unfold listL
    rw [if_neg e, e2]; rfl

theorem cnt_root {xs : NS} (h : Right xs) : cntL xs rootP = xs.length := by
  unfold cntL
  rw [List.filter_eq_self.2]
  intro x hx
  exact underB_iff.2 ⟨root_split.2, fits_path (h.fit x hx), by rw [root_split.1]; exact List.nil_prefix⟩

theorem kid_small {xs : NS} (h : Right xs) {x : Nd} (hx : x ∈ xs) {E : Int} {n : ByteArray} (hn : n ∈ listL xs x.path E) : n.size ≤ 20 ∧ x.path.size ≤ 120 := by
  have hp := fits_path (h.fit x hx)
  refine ⟨?_, by rw [splitX_ok hp]; exact pathT_small (split_ok hp).1⟩
  unfold listL at hn
  split at hn
  · exact (names_at hn).2
  · cases hn

/-- What is over. -/
theorem over_is {xs : NS} (h : Right xs) {p : ByteArray} (hp : p ∈ overL xs) : ∃ i, ∃ hi : i < xs.length, findI xs p = (i : Int) ∧ xs[i].path = p ∧ 0 ≤ xs[i].quota ∧ xs[i].quota < (cntL xs p : Int) := by
  unfold overL at hp
  obtain ⟨x, hx, rfl⟩ := List.mem_map.1 hp
  obtain ⟨hx1, hx2⟩ := List.mem_filter.1 hx
  unfold overB at hx2
  simp only [Bool.and_eq_true, decide_eq_true_eq] at hx2
  rcases findI_cases xs x.path with ⟨h1, _⟩ | ⟨i, h1, h2, hi, _⟩
  · exact absurd rfl (at_none h1 x hx1)
  · obtain ⟨_, h3, _⟩ := at_some h1
    have := (right_asc h).apart.same (List.getElem_mem hi) hx1 h3
    exact ⟨i, hi, h2, h3, by rw [this]; exact hx2.1, by rw [this]; exact hx2.2⟩

/-! ### without quotas -/
theorem over_none {xs : NS} (hq : ∀ x ∈ xs, x.quota = -1) : overL xs = [] := by
  unfold overL
  rw [List.map_eq_nil_iff, List.filter_eq_nil_iff]
  intro x hx
  unfold overB
  rw [hq x hx]
  simp
theorem room_none {xs : NS} (p : ByteArray) : ∀ (l : NS) (r : Int), (∀ x ∈ l, x.quota = -1) → roomF xs p r l = r
  | [], _, _ => rfl
  | x :: l, r, h => by
    show roomF xs p (roomS xs p r x) l = r
    have e : roomS xs p r x = r := by
      unfold roomS
      rw [if_neg]
      rw [h x (by simp)]
      rintro ⟨h1, _⟩
      omega
    rw [e]
    exact room_none p l r (fun y hy => h y (by simp [hy]))
theorem roomI_none {xs : NS} (h : Right xs) (hq : ∀ x ∈ xs, x.quota = -1) {x : Nd} (hx : x ∈ xs) : roomI xs x.path = if x.dir then 60 - (xs.length : Int) else 0 := by
  unfold roomI
  rw [dirE_of (right_asc h).apart hx]
  have := h.few
  cases x.dir with
  | true =>
    simp only [if_true]
    rw [room_none _ _ _ hq]
    omega
  | false => simp

/-! ### another quota -/
def setQ (x : Nd) (q : Int) : Nd := ⟨x.path, x.dir, q, x.bs, x.wr⟩
def withQ (xs : NS) (k : Nat) (q : Int) : NS := match xs[k]? with
  | none => xs
  | some x => xs.set k (setQ x q)

theorem withQ_is {xs : NS} {k : Nat} (hk : k < xs.length) (q : Int) : withQ xs k q = xs.take k ++ setQ xs[k] q :: xs.drop (k + 1) := by
  unfold withQ
  rw [List.getElem?_eq_getElem hk]
  simp only
  rw [List.set_eq_take_append_cons_drop, if_pos hk]
theorem withQ_old {xs : NS} {k : Nat} (hk : k < xs.length) : xs = xs.take k ++ xs[k] :: xs.drop (k + 1) := by
  rw [← List.drop_eq_getElem_cons hk, List.take_append_drop]
theorem withQ_paths {xs : NS} {k : Nat} (hk : k < xs.length) (q : Int) : (withQ xs k q).map (·.path) = xs.map (·.path) := by
  rw [withQ_is hk]
  conv => rhs; rw [withQ_old hk]
  simp only [List.map_append, List.map_cons]; rfl
theorem withQ_len {xs : NS} {k : Nat} (hk : k < xs.length) (q : Int) : (withQ xs k q).length = xs.length := by
  have := congrArg List.length (withQ_paths hk q)
  simpa using this
theorem withQ_mem {xs : NS} {k : Nat} (hk : k < xs.length) (q : Int) {y : Nd} (hy : y ∈ withQ xs k q) : y = setQ xs[k] q ∨ y ∈ xs := by
  rw [withQ_is hk] at hy
  rcases List.mem_append.1 hy with h | h
  · exact .inr (List.mem_of_mem_take h)
  · rcases List.mem_cons.1 h with h | h
    · exact .inl h
    · exact .inr (List.mem_of_mem_drop h)
theorem withQ_to {xs : NS} {k : Nat} (hk : k < xs.length) (q : Int) {y : Nd} (hy : y ∈ xs) : ∃ z ∈ withQ xs k q, z.path = y.path ∧ z.dir = y.dir := by
  rw [withQ_is hk]
  rw [withQ_old hk] at hy
  rcases List.mem_append.1 hy with h | h
  · exact ⟨y, List.mem_append.2 (.inl h), rfl, rfl⟩
  · rcases List.mem_cons.1 h with h | h
    · exact ⟨setQ xs[k] q, by simp, by rw [h]; rfl, by rw [h]; rfl⟩
    · exact ⟨y, List.mem_append.2 (.inr (List.mem_cons_of_mem _ h)), rfl, rfl⟩

theorem asc_paths {xs ys : NS} (h : ys.map (·.path) = xs.map (·.path)) (ha : Asc xs) : Asc ys := by
  unfold Asc at *
  have e : ∀ l : NS, l.Pairwise (fun x y => ltB x.path y.path = true) ↔ (l.map (·.path)).Pairwise (fun a b => ltB a b = true) := fun l => by rw [List.pairwise_map]
  rw [e, h, ← e]; exact ha

theorem withQ_right {xs : NS} (h : Right xs) {k : Nat} (hk : k < xs.length) (hd : xs[k].dir = true) {q : Int} (hq : 0 ≤ q) (hq2 : q ≤ 9007199254740991) : Right (withQ xs k q) := by
  have hl := withQ_len hk q
  refine right_of (asc_paths (withQ_paths hk q) (right_asc h)) (by rw [hl]; exact h.few) ?_ (fun y hy => ?_) (fun y hy hr => ?_)
  · obtain ⟨r, hr, hrp, _⟩ := right_root h
    obtain ⟨z, hz, hzp, _⟩ := withQ_to hk q hr
    exact ⟨z, hz, hzp.trans hrp⟩
  · rcases withQ_mem hk q hy with rfl | hy
    · have hf := h.fit _ (List.getElem_mem hk)
      unfold fitsB at hf ⊢
      unfold setQ
      rw [hd] at hf ⊢
      simp only [Bool.and_eq_true, if_true] at hf ⊢
      refine ⟨hf.1, ?_⟩
      have := hf.2
      unfold dirB at this ⊢
      simp only [Bool.and_eq_true, decide_eq_true_eq] at this ⊢
      exact ⟨this.1, by omega, hq2⟩
    · exact h.fit y hy
  · have : ∃ z ∈ xs, z.path = parD y.path ∧ z.dir = true := by
      rcases withQ_mem hk q hy with rfl | hy
      · exact right_par h (x := xs[k]) (List.getElem_mem hk) hr
      · exact right_par h hy hr
    obtain ⟨z, hz, hzp, hzd⟩ := this
    obtain ⟨z', hz', e1, e2⟩ := withQ_to hk q hz
    exact ⟨z', hz', e1.trans hzp, e2.trans hzd⟩

theorem withQ_dirE {xs : NS} (h : Right xs) {k : Nat} (hk : k < xs.length) (q : Int) (p : ByteArray) : dirE (withQ xs k q) p = 0 ↔ dirE xs p = 0 := by
  have hA := right_asc h
  rw [dirE_zero hA.apart, dirE_zero (asc_paths (withQ_paths hk q) hA).apart]
  constructor
  · rintro ⟨y, hy, hyp, hyd⟩
    rcases withQ_mem hk q hy with rfl | hy
    · exact ⟨_, List.getElem_mem hk, hyp, hyd⟩
    · exact ⟨y, hy, hyp, hyd⟩
  · rintro ⟨y, hy, hyp, hyd⟩
    obtain ⟨z, hz, e1, e2⟩ := withQ_to hk q hy
    exact ⟨z, hz, e1.trans hyp, e2.trans hyd⟩

theorem withQ_cnt {xs : NS} {k : Nat} (hk : k < xs.length) (q : Int) (p : ByteArray) : cntL (withQ xs k q) p = cntL xs p := cnt_paths (withQ_paths hk q) p

theorem roomF_cnt {xs ys : NS} (h : ∀ p, cntL xs p = cntL ys p) (p : ByteArray) (r : Int) (l : NS) : roomF xs p r l = roomF ys p r l := by
  have e : roomS xs p = roomS ys p := by funext r x; unfold roomS; rw [h]
  unfold roomF; rw [e]
theorem roomF_mono (xs : NS) (p : ByteArray) : ∀ (l : NS) (r r' : Int), r ≤ r' → roomF xs p r l ≤ roomF xs p r' l
  | [], _, _, h => h
  | x :: l, r, r', h => by
    refine roomF_mono xs p l _ _ ?_
    unfold roomS
    split
    · omega
    · exact h

theorem less_room {xs : NS} (h : Right xs) {k : Nat} (hk : k < xs.length) {q q' : Int} (h0 : 0 ≤ q) (hq : q ≤ q') (p : ByteArray) : roomI (withQ xs k q) p ≤ roomI (withQ xs k q') p := by
  unfold roomI
  by_cases hd : dirE xs p = 0
  · rw [if_pos ((withQ_dirE h hk q p).2 hd), if_pos ((withQ_dirE h hk q' p).2 hd), withQ_len hk, withQ_len hk, roomF_cnt (withQ_cnt hk q), roomF_cnt (withQ_cnt hk q'), withQ_is hk, withQ_is hk]
    have : roomF xs p (60 - (xs.length : Int)) (xs.take k ++ setQ xs[k] q :: xs.drop (k + 1)) ≤ roomF xs p (60 - (xs.length : Int)) (xs.take k ++ setQ xs[k] q' :: xs.drop (k + 1)) := by
      have e : ∀ y : Nd, roomF xs p (60 - (xs.length : Int)) (xs.take k ++ y :: xs.drop (k + 1)) = roomF xs p (roomS xs p (roomF xs p (60 - (xs.length : Int)) (xs.take k)) y) (xs.drop (k + 1)) := fun y => by
        unfold roomF; rw [List.foldl_append]; rfl
      rw [e, e]
      refine roomF_mono xs p _ _ _ ?_
      unfold roomS setQ
      simp only
      by_cases hu : underB xs[k].path p = true
      · rw [if_pos ⟨h0, hu⟩, if_pos ⟨by omega, hu⟩]; omega
      · rw [if_neg (fun e => hu e.2), if_neg (fun e => hu e.2)]; exact Int.le_refl _
    omega
  · rw [if_neg (fun e => hd ((withQ_dirE h hk q p).1 e)), if_neg (fun e => hd ((withQ_dirE h hk q' p).1 e))]
    exact Int.le_refl _

theorem less_over {xs : NS} {k : Nat} (hk : k < xs.length) {q q' : Int} (h0 : 0 ≤ q) (hq : q ≤ q') : (overL (withQ xs k q')).length ≤ (overL (withQ xs k q)).length := by
  have e : ∀ z, (overL (withQ xs k z)).length = ((xs.take k ++ setQ xs[k] z :: xs.drop (k + 1)).filter (overB xs)).length := fun z => by
    unfold overL
    rw [List.length_map]
    have eo : overB (withQ xs k z) = overB xs := by funext x; unfold overB; rw [withQ_cnt hk]
    rw [eo, withQ_is hk]
  rw [e, e, List.filter_append, List.filter_append, List.length_append, List.length_append, List.filter_cons, List.filter_cons]
  have hx : overB xs (setQ xs[k] q') = true → overB xs (setQ xs[k] q) = true := by
    unfold overB setQ
    simp only [Bool.and_eq_true, decide_eq_true_eq]
    omega
  cases h1 : overB xs (setQ xs[k] q') with
  | true =>
    rw [hx h1]
    simp
  | false =>
    cases overB xs (setQ xs[k] q) <;> simp

end Go.Proofs.Ytlfehfajaelmlaa
