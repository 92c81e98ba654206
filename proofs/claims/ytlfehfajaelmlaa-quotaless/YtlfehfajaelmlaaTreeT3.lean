/- Plain facts on trees: what stands in a directory, and its names. No program in it. -/
import Derived.Test.YtlfehfajaelmlaaTreeT2
namespace Go.Proofs.Ytlfehfajaelmlaa
open Go.RowKit

theorem app_data (a b : ByteArray) : (a ++ b).data.toList = a.data.toList ++ b.data.toList := by simp

/-- What is called n in the directory d. -/
def kid (d n : ByteArray) : ByteArray := if d = rootP then ⟨#[47]⟩ ++ n else d ++ ⟨#[47]⟩ ++ n

theorem kid_root (n : ByteArray) : kid rootP n = ⟨#[47]⟩ ++ n := if_pos rfl
theorem kid_not {d : ByteArray} (h : d ≠ rootP) (n : ByteArray) : kid d n = d ++ ⟨#[47]⟩ ++ n := if_neg h

theorem kid_data {d n : ByteArray} (h : splitE d = 0) : (kid d n).data.toList = pathL (splitN d ++ [n]) := by
  by_cases hr : d = rootP
  · subst hr
    rw [kid_root, app_data, root_split.1, List.nil_append, pathL_cons, pathL_nil, List.append_nil]; rfl
  · have hne : splitN d ≠ [] := fun e => hr (names_root h e)
    have hd := splitX_ok h
    rw [pathT_ne hne] at hd
    rw [kid_not hr, app_data, app_data, pathL_app, pathL_cons, pathL_nil, List.append_nil]
    have e : d.data.toList = pathL (splitN d) := by rw [hd, mk_list, ← hd]
    rw [e]
    simp

theorem path_data {p : ByteArray} (h : splitE p = 0) (hr : p ≠ rootP) : p.data.toList = pathL (splitN p) := by
  have hne : splitN p ≠ [] := fun e => hr (names_root h e)
  have hd := splitX_ok h
  rw [pathT_ne hne] at hd
  rw [hd, mk_list, ← hd]

theorem kid_of {p d n : ByteArray} (h : parentX p = (d, n, 0)) : p = kid d n := by
  obtain ⟨h1, h2, h3, _⟩ := parent_ok h
  have hr : p ≠ rootP := by
    intro e
    rw [e, root_split.1] at h3
    have := congrArg List.length h3
    rw [List.length_append, List.length_cons] at this
    simp at this
  apply ba_inj
  rw [path_data h1 hr, kid_data h2, h3]

theorem kid_ne_root {d n : ByteArray} (hd : splitE d = 0) (hn : nameB n = true) : kid d n ≠ rootP := by
  intro e
  have h1 := congrArg (fun x : ByteArray => x.data.toList.length) e
  simp only [kid_data hd, pathL_app, List.length_append, pathL_cons, List.length_cons] at h1
  have h2 := (nameL_len hn).1
  have h3 : rootP.data.toList.length = 1 := rfl
  rw [h3] at h1
  omega

/-- The names of a path that is made so. -/
theorem kid_names {d n : ByteArray} (hd : splitE d = 0) (hn : nameB n = true) (hq : splitE (kid d n) = 0) : splitN (kid d n) = splitN d ++ [n] ∧ parD (kid d n) = d := by
  have hr := kid_ne_root hd hn
  have h1 := path_data hq hr
  rw [kid_data hd] at h1
  have c1 := cut_back (splitN d ++ [n]) (fun m hm => by
    rcases List.mem_append.1 hm with hm | hm
    · exact (split_ok hd).1.names m hm
    · rw [List.mem_singleton.1 hm]; exact hn)
  have c2 := cut_back (splitN (kid d n)) (split_ok hq).1.names
  rw [h1, c2] at c1
  have hN := Option.some.inj c1
  refine ⟨hN, ?_⟩
  obtain ⟨D, m, _, hD, _, hN2, hE2⟩ := par_ex hq hr
  rw [hD]
  rw [hN] at hN2
  exact (path_eq hd hE2 (List.append_inj_left' hN2 rfl)).symm

theorem bl_left : ∀ (l a b : List UInt8), Op.bytesLess (l ++ a) (l ++ b) = Op.bytesLess a b
  | [], _, _ => rfl
  | x :: l, a, b => by
    have ih := bl_left l a b
    cases h : Op.bytesLess a b with
    | true => exact (bl_cons ..).2 (.inr ⟨rfl, ih.trans h⟩)
    | false =>
      rw [List.cons_append, List.cons_append, Bool.eq_false_iff, ne_eq, bl_cons]
      rintro (e | ⟨_, e⟩)
      · omega
      · rw [ih, h] at e; cases e

theorem kid_lt {d n m : ByteArray} (hd : splitE d = 0) (h : ltB (kid d n) (kid d m) = true) : ltB n m = true := by
  unfold ltB at *
  rw [Lib.toList_data, Lib.toList_data] at *
  rw [kid_data hd, kid_data hd, pathL_app, pathL_app, bl_left, pathL_cons, pathL_cons, pathL_nil, List.append_nil, List.append_nil] at h
  rcases (bl_cons ..).1 h with e | ⟨_, e⟩
  · omega
  · exact e

theorem inB_iff {p : ByteArray} {x : Nd} : inB p x = true ↔ ∃ n, parentX x.path = (p, n, 0) := by
  unfold inB parD
  rw [Bool.and_eq_true, decide_eq_true_eq, decide_eq_true_eq]
  obtain ⟨⟨d, n, E⟩, h⟩ : ∃ y, parentX x.path = y := ⟨_, rfl⟩
  rw [h]
  constructor
  · rintro ⟨h1, h2⟩
    simp only at h1 h2
    subst h1 h2
    exact ⟨n, rfl⟩
  · rintro ⟨m, e⟩
    cases e
    exact ⟨rfl, rfl⟩

/-- The names rise. -/
theorem names_asc {xs : NS} (h : Asc xs) (p : ByteArray) : (namesL xs p).Pairwise (fun a b => ltB a b = true) := by
  unfold namesL
  rw [List.pairwise_map]
  have h2 : (xs.filter (inB p)).Pairwise (fun x y => ltB x.path y.path = true) := asc_filter h _
  refine List.Pairwise.imp_of_mem (fun {x y} hx hy e => ?_) h2
  obtain ⟨n, hn⟩ := inB_iff.1 (List.mem_filter.1 hx).2
  obtain ⟨m, hm⟩ := inB_iff.1 (List.mem_filter.1 hy).2
  have e1 : nameN x.path = n := by unfold nameN; rw [hn]
  have e2 : nameN y.path = m := by unfold nameN; rw [hm]
  rw [e1, e2]
  rw [kid_of hn, kid_of hm] at e
  exact kid_lt (parent_ok hn).2.1 e

/-- Each name is that of a node. -/
theorem names_at {xs : NS} {p n : ByteArray} (h : n ∈ namesL xs p) : at? xs (kid p n) ≠ none ∧ n.size ≤ 20 := by
  unfold namesL at h
  obtain ⟨x, hx, rfl⟩ := List.mem_map.1 h
  obtain ⟨h1, h2⟩ := List.mem_filter.1 hx
  obtain ⟨n, hn⟩ := inB_iff.1 h2
  have e1 : nameN x.path = n := by unfold nameN; rw [hn]
  rw [e1]
  exact ⟨at_ex.2 ⟨x, h1, kid_of hn⟩, (parent_ok hn).2.2.2.2.2.2⟩

/-! ### how many -/
def cntN (xs : NS) (x : Nd) : Nat := if x.dir then (namesL xs x.path).length else 0

theorem swap_sum (g : Nd → Nd → Bool) (zs : NS) : ∀ xs : NS, (zs.map (fun x => (xs.filter (g x)).length)).sum = (xs.map (fun y => (zs.filter (fun x => g x y)).length)).sum
  | [] => by
    simp only [List.filter_nil, List.length_nil, List.map_nil, List.sum_nil]
    induction zs with
    | nil => rfl
    | cons z zs ih => rw [List.map_cons, List.sum_cons, ih]; rfl
  | y :: xs => by
    rw [List.map_cons, List.sum_cons, ← swap_sum g zs xs]
    clear swap_sum
    induction zs with
    | nil => rfl
    | cons z zs ih =>
      rw [List.map_cons, List.sum_cons, List.map_cons, List.sum_cons, ih, List.filter_cons, List.filter_cons]
      cases g z y with
      | true => simp only [if_true, List.length_cons]; omega
      | false => simp only [Bool.false_eq_true, if_false]; omega

theorem one_filter {zs : NS} (ha : Apart zs) (q : Nd → Bool) {z : Nd} (hz : z ∈ zs) (hq : q z = true) (hu : ∀ y ∈ zs, q y = true → y.path = z.path) : (zs.filter q).length = 1 := by
  have h1 : Apart (zs.filter q) := List.Pairwise.filter _ ha
  have hm : z ∈ zs.filter q := List.mem_filter.2 ⟨hz, hq⟩
  match hf : zs.filter q, hm with
  | [a], _ => rfl
  | a :: b :: l, _ =>
    rw [hf] at h1
    have h2 := (List.pairwise_cons.1 h1).1 b (by simp)
    have ha' : a ∈ zs.filter q := by rw [hf]; simp
    have hb' : b ∈ zs.filter q := by rw [hf]; simp
    obtain ⟨a1, a2⟩ := List.mem_filter.1 ha'
    obtain ⟨b1, b2⟩ := List.mem_filter.1 hb'
    exact absurd ((hu a a1 a2).trans (hu b b1 b2).symm) h2

theorem sum_count : ∀ (l : NS) (f : Nd → Nat) (q : Nd → Bool), (∀ x ∈ l, f x = if q x then 1 else 0) → (l.map f).sum = (l.filter q).length
  | [], _, _, _ => rfl
  | x :: l, f, q, h => by
    rw [List.map_cons, List.sum_cons, sum_count l f q (fun y hy => h y (by simp [hy])), h x (by simp), List.filter_cons]
    cases q x with
    | true => simp only [if_true, List.length_cons]; omega
    | false => simp only [Bool.false_eq_true, if_false]; omega

/-- All names of all directories are all nodes but the root. -/
theorem count_all {xs : NS} (h : Right xs) : (xs.map (cntN xs)).sum + 1 = xs.length := by
  have hA := (right_asc h).apart
  have e1 : (xs.map (cntN xs)).sum = (xs.map (fun x => (xs.filter (fun y => x.dir && inB x.path y)).length)).sum := by
    congr 1
    refine List.map_congr_left fun x hx => ?_
    unfold cntN namesL
    cases x.dir with
    | true => simp
    | false =>
      symm
      simp only [Bool.false_and, Bool.false_eq_true, if_false]
      rw [List.length_eq_zero_iff, List.filter_eq_nil_iff]
      intro y _
      simp
  rw [e1, swap_sum (fun x y => x.dir && inB x.path y) xs xs]
  rw [sum_count xs _ (fun y => !decide (y.path = rootP)) (fun y hy => ?_)]
  · obtain ⟨r, hr, hrp, _⟩ := right_root h
    have h1 : (xs.filter (fun y => decide (y.path = rootP))).length = 1 := one_filter hA _ hr (by simp [hrp]) (fun y _ hq => by rw [hrp]; simpa using hq)
    have h2 := (List.filter_append_perm (fun y : Nd => decide (y.path = rootP)) xs).length_eq
    rw [List.length_append, h1] at h2
    omega
  · by_cases hr : y.path = rootP
    · rw [decide_eq_true hr]
      simp only [Bool.not_true, Bool.false_eq_true, if_false]
      rw [List.length_eq_zero_iff, List.filter_eq_nil_iff]
      intro x hx e
      rw [Bool.and_eq_true] at e
      obtain ⟨n, hn⟩ := inB_iff.1 e.2
      rw [hr] at hn
      have := (parent_ok hn).2.2.1
      rw [root_split.1] at this
      have := congrArg List.length this
      rw [List.length_append, List.length_cons] at this
      simp at this
    · rw [decide_eq_false hr]
      simp only [Bool.not_false, if_true]
      obtain ⟨z, hz, hzp, hzd⟩ := right_par h hy hr
      obtain ⟨d, n, hp, hd, _⟩ := par_ex (fits_path (h.fit y hy)) hr
      refine one_filter hA _ hz ?_ (fun x hx hq => ?_)
      · rw [hzd, Bool.true_and]
        exact inB_iff.2 ⟨n, by rw [hzp, hd]; exact hp⟩
      · rw [Bool.and_eq_true] at hq
        obtain ⟨m, hm⟩ := inB_iff.1 hq.2
        rw [hp] at hm
        cases hm
        rw [hzp, hd]

end Go.Proofs.Ytlfehfajaelmlaa
