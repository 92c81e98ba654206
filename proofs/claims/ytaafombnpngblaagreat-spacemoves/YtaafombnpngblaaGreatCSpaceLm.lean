/- What SpaceMoves asks, in plain words. No program in it. -/
import Derived.Test.YtaafombnpngblaaGreatB17
import Derived.Test.YtaafombnpngblaaGreatB12
namespace Go.Proofs.YtaafombnpngblaaGreat.Spa
open Go.RowKit Go.Proofs.YtaafombnpngblaaGreat
open Go.Proofs.YtaafombnpngblaaGreat.Lea (LS Ls findX putL renX untilX)
open Go.Proofs.YtaafombnpngblaaGreat.Edi (Ed)

def renE (f t : ByteArray) : Ed := ⟨4, f, t, 0, 0, 0, []⟩
def delE (f : ByteArray) : Ed := ⟨3, f, ⟨#[]⟩, 0, 0, 0, []⟩

theorem apart_eq {l : NS} (h : Apart l) {x y : Nd} (hx : x ∈ l) (hy : y ∈ l) (e : x.path = y.path) : x = y := by
  obtain ⟨i, hi, rfl⟩ := List.getElem_of_mem hx
  obtain ⟨j, hj, rfl⟩ := List.getElem_of_mem hy
  have hp := List.pairwise_iff_getElem.1 h
  rcases Nat.lt_trichotomy i j with hl | rfl | hl
  · exact absurd e (hp i j hi hj hl)
  · rfl
  · exact absurd e.symm (hp j i hj hi hl)
theorem at_ne {xs : NS} {p : ByteArray} (hp : pathB p = true) (h : at? xs p ≠ none) : ∃ i x, Is xs p i x := by
  rcases node_cases xs p with h1 | ⟨_, h1⟩ | h1
  · rw [hp] at h1; cases h1
  · exact absurd h1 h
  · exact h1
theorem path_of {p : ByteArray} (h : splitE p = 0) : pathB p = true := by simpa [pathB] using h

theorem ren_mov {s : Sp} {f t : ByteArray} (h : AppE s (renE f t) 0) : MovE s.ns f t 0 ∧ (doS s (renE f t)).ns = movL s.ns f t := by
  have e1 : (doS s (renE f t)).ns = movL s.ns f t := by
    show nsOf s (renE f t) = _
    unfold nsOf
    simp [renE]
  refine ⟨?_, e1⟩
  cases (mk_of h).does with
  | made k _ => rcases k with k | k <;> simp [renE] at k
  | rem k _ => simp [renE] at k
  | ren k hm =>
    cases hm with
    | mov _ _ h0 => exact absurd rfl h0
    | ok hM _ => exact hM
  | addb k _ => simp [renE] at k
  | comp k _ => simp [renE] at k
  | setq k _ => simp [renE] at k
  | rnw k _ => simp [renE] at k
  | bump k _ => simp [renE] at k
  | reop k _ => simp [renE] at k
theorem del_rem {s : Sp} {f : ByteArray} (h : AppE s (delE f) 0) : RemE s.ns f 0 ∧ (doS s (delE f)).ns = leftL s.ns f := by
  have e1 : (doS s (delE f)).ns = leftL s.ns f := by
    show nsOf s (delE f) = _
    unfold nsOf
    simp [delE]
  refine ⟨?_, e1⟩
  cases (mk_of h).does with
  | made k _ => rcases k with k | k <;> simp [delE] at k
  | rem k hm => exact hm
  | ren k _ => simp [delE] at k
  | addb k _ => simp [delE] at k
  | comp k _ => simp [delE] at k
  | setq k _ => simp [delE] at k
  | rnw k _ => simp [delE] at k
  | bump k _ => simp [delE] at k
  | reop k _ => simp [delE] at k

/-- What stands where is unlike. -/
theorem Is.filter {xs : NS} (ha : Apart xs) {p : ByteArray} {i : Nat} {x : Nd} (h : Is xs p i x) : xs.filter (fun y => decide (y.path = p)) = [x] := by
  obtain ⟨e1, _⟩ := set_split (y := x) h.nd
  have hl := h.lt
  have hp := List.pairwise_iff_getElem.1 ha
  rw [e1, List.filter_append, List.filter_cons]
  have h1 : (xs.take i).filter (fun y => decide (y.path = p)) = [] := List.filter_eq_nil_iff.2 fun y hy => by
    obtain ⟨j, hj, rfl⟩ := List.getElem_of_mem hy
    rw [List.length_take] at hj
    rw [List.getElem_take]
    have := hp j i (by omega) hl (by omega)
    rw [h.get, h.eq] at this
    simpa using this
  have h2 : (xs.drop (i + 1)).filter (fun y => decide (y.path = p)) = [] := List.filter_eq_nil_iff.2 fun y hy => by
    obtain ⟨j, hj, rfl⟩ := List.getElem_of_mem hy
    rw [List.length_drop] at hj
    rw [List.getElem_drop]
    have := hp i (i + 1 + j) hl (by omega) (by omega)
    rw [h.get, h.eq] at this
    simpa using fun e => this e.symm
  rw [h1, h2, if_pos (by rw [h.eq]; simp)]
  rfl
/-- How many blocks stand at a path. -/
theorem there_blks {xs : NS} (ha : Apart xs) {p : ByteArray} {x : Nd} (h : (∃ i, Is xs p i x) ∨ (at? xs p = none ∧ x.bs = [])) : (blksL (xs.filter (fun y => decide (y.path = p)))).length = x.bs.length := by
  rcases h with ⟨i, hi⟩ | ⟨hn, hb⟩
  · rw [hi.filter ha, blks_one]
  · have : xs.filter (fun y => decide (y.path = p)) = [] := List.filter_eq_nil_iff.2 fun y hy => by
      have := at_none hn y hy
      simpa using this
    rw [this, hb]; rfl
theorem blks_split (xs : NS) (f : Nd → Bool) : (blksL xs).length = (blksL (xs.filter f)).length + (blksL (xs.filter (fun x => !f x))).length := by
  have h := blks_perm (List.filter_append_perm f xs)
  rw [blks_app] at h
  rw [← h.length_eq, List.length_append]

structure Rnm (s t : Sp) (f to : ByteArray) (gone : Nd) : Prop where
  src : ∃ i x j y, Is s.ns f i x ∧ Is t.ns to j y ∧ y.bs = x.bs ∧ y.wr = x.wr ∧ y.dir = x.dir
  none : pathB f = true ∧ at? t.ns f = none
  len : (blksL t.ns).length + gone.bs.length = (blksL s.ns).length
theorem renamed {s : Sp} {f to : ByteArray} (h : AppE s (renE f to) 0) {gone : Nd} (hg : (∃ i, Is s.ns to i gone) ∨ (at? s.ns to = none ∧ gone.bs = [])) : Rnm s (doS s (renE f to)) f to gone := by
  obtain ⟨hM, hns⟩ := ren_mov h
  have m := mov_of hM
  obtain ⟨t1, t2, t3, t4⟩ := m.tree
  have ha := (right_asc m.right).apart
  have hat := (right_asc t1).apart
  obtain ⟨x, hx, hxf⟩ := m.src
  have hpf := path_of m.pf
  obtain ⟨i, x', hi⟩ := at_ne (xs := s.ns) hpf (fun e => at_none e x hx hxf)
  have hxx : x' = x := apart_eq ha hi.mem hx (by rw [hi.eq, hxf])
  subst hxx
  obtain ⟨j, y, hj⟩ := at_ne (path_of m.pt) t2
  have hu : underB f x'.path = true := by rw [hxf]; exact underB_iff.2 ⟨m.pf, m.pf, List.prefix_refl _⟩
  have hy : y = movN f to x' := apart_eq hat hj.mem ((Mov.mem _).2 (.inr ⟨x', hx, hu, rfl⟩)) (by rw [hj.eq, m.at_src hx hxf])
  refine ⟨⟨i, x', j, y, hi, hns ▸ hj, by rw [hy]; rfl, by rw [hy]; rfl, by rw [hy]; rfl⟩, ⟨hpf, hns ▸ t3⟩, ?_⟩
  rw [hns]
  obtain ⟨zs, _, hp, rfl⟩ := mov_sub (xs := s.ns) (f := f) (t := to)
  have h1 := hp.length_eq
  rw [List.length_append] at h1
  have h2 := blks_split s.ns (goesB f)
  have h3 := blks_split (s.ns.filter (fun x => !goesB f x)) (fun y => decide (y.path = to))
  have e1 : (s.ns.filter (fun x => !goesB f x)).filter (fun y => decide (y.path = to)) = s.ns.filter (fun y => decide (y.path = to)) := by
    rw [List.filter_filter]
    refine List.filter_congr fun z hz => ?_
    by_cases hz2 : z.path = to
    · simp only [hz2, decide_true, Bool.true_and]
      unfold goesB
      rw [hz2, m.ft]; rfl
    · simp [hz2]
  have e2 : (s.ns.filter (fun x => !goesB f x)).filter (fun y => !decide (y.path = to)) = s.ns.filter (stayB f to) := by
    rw [List.filter_filter]
    exact List.filter_congr fun z hz => rfl
  rw [e1, e2, there_blks ha hg] at h3
  omega

structure Del (s u : Sp) (f : ByteArray) (was : Nd) : Prop where
  none : pathB f = true ∧ at? u.ns f = none
  sub : (blksL u.ns).Sublist (blksL s.ns)
  len : (blksL u.ns).length + was.bs.length ≤ (blksL s.ns).length
theorem deleted {s : Sp} {f : ByteArray} (h : AppE s (delE f) 0) {i : Nat} {was : Nd} (hw : Is s.ns f i was) : Del s (doS s (delE f)) f was := by
  obtain ⟨hM, hns⟩ := del_rem h
  obtain ⟨_, _, t3⟩ := removed hM
  refine ⟨⟨hw.path, hns ▸ t3⟩, hns ▸ sub_blks List.filter_sublist, ?_⟩
  rw [hns]
  have h2 := blks_split s.ns (fun x => !underB f x.path)
  have hu : underB f was.path = true := by
    rw [hw.eq]
    have h0 : splitE f = 0 := by simpa [pathB] using hw.path
    exact underB_iff.2 ⟨h0, h0, List.prefix_refl _⟩
  have hm : was ∈ s.ns.filter (fun x => !!underB f x.path) := List.mem_filter.2 ⟨hw.mem, by rw [hu]; rfl⟩
  have h3 : was.bs.length ≤ (blksL (s.ns.filter (fun x => !!underB f x.path))).length := by
    obtain ⟨a, b, e⟩ := List.append_of_mem hm
    rw [e, blks_app, List.length_append, show was :: b = [was] ++ b from rfl, blks_app, List.length_append, blks_one]
    omega
  show (blksL (s.ns.filter (fun x => !underB f x.path))).length + _ ≤ _
  omega
theorem del_is {s : Sp} {f : ByteArray} (h : AppE s (delE f) 0) : ∃ i x, Is s.ns f i x := by
  obtain ⟨hM, _⟩ := del_rem h
  cases hM with
  | ok _ hp _ hn => exact at_ne hp hn

theorem wrap_sub {a b : Nat} (h : b ≤ a) (h2 : a ≤ 9223372036854775807) : wrap64 ((a : Int) - (b : Int)) = (a : Int) - (b : Int) := by unfold wrap64; omega
theorem neq_len {a b c d f : Nat} {A B C : Nat} (h1 : a = A) (h2 : a = b) (h3 : c = B) (h4 : c = d) (h5 : A + C = B) (h6 : C = f) (h7 : d ≤ maxLen) : ((b : Int) != wrap64 ((d : Int) - (f : Int))) = false := by
  unfold maxLen at h7
  rw [wrap_sub (by omega) (by omega), bne_eq_false_iff_eq]; omega
theorem neq_len2 {a b c d f : Nat} {A B C : Nat} (h1 : a = A) (h2 : a = b) (h3 : c = B) (h4 : c = d) (h5 : A + C = B) (h6 : C = f) (h7 : d ≤ maxLen) : ((b : Int) != IntKind.i64.wrap ((d : Int) - (f : Int))) = false := by
  unfold maxLen at h7
  rw [bne_eq_false_iff_eq, IntKind.wrap_i64]
  omega
/-- Each of what is left stands among all, further on than the one ahead of it. -/
structure Among (ls all : List Blk) (i at_ : Nat) : Prop where
  ex : ∀ j (hj : j < ls.length), i ≤ j → ∃ p, ∃ hp : p < all.length, at_ ≤ p ∧ all[p] = ls[j]
theorem among_start {xs ys : List Blk} (hs : ∀ b ∈ xs, b ∈ ys) : Among xs ys 0 0 :=
  ⟨fun j hj _ => by
    obtain ⟨p, hp, e⟩ := List.getElem_of_mem (hs _ (List.getElem_mem hj))
    exact ⟨p, hp, Nat.zero_le _, e⟩⟩
theorem among_next {ls all : List Blk} (hl : UpB ls) (ha : UpB all) {i at_ q : Nat} (h : Among ls all i at_) (hi : i < ls.length) (hq : q < all.length) (he : all[q] = ls[i]) : Among ls all (i + 1) q :=
  ⟨fun j hj hij => by
    obtain ⟨p, hp, _, e⟩ := h.ex j hj (by omega)
    refine ⟨p, hp, ?_, e⟩
    have h1 := List.pairwise_iff_getElem.1 hl i j hi hj (by omega)
    rcases Nat.lt_or_ge p q with hlt | hge
    · have h2 := List.pairwise_iff_getElem.1 ha p q hp hq hlt
      rw [e, he] at h2
      omega
    · exact hge⟩

end Go.Proofs.YtaafombnpngblaaGreat.Spa
