/- Leases: what the laws need in plain words. No program in it. -/
import Derived.Test.YtflccniidaogiaaLeaseM
namespace Go.Proofs.Ytflccniidaogiaa.Lea
open Go.RowKit Go.Proofs.Ytflccniidaogiaa

theorem late_app (now : Int) (xs ys : LS) : lateL now (xs ++ ys) = lateL now xs ++ lateL now ys := by
  unfold lateL; rw [List.filter_append, List.map_append]

theorem late_at {now : Int} {xs : LS} {i : Nat} (hi : i < xs.length) (hu : xs[i].u < now) {zs : List Int} (hz : lateL now xs = zs) : ∃ h : (lateL now (xs.take i)).length < zs.length, zs[(lateL now (xs.take i)).length] = xs[i].c := by
  have e : zs = lateL now (xs.take i) ++ (xs[i].c :: lateL now (xs.drop (i + 1))) := by
    rw [← hz]
    conv => lhs; rw [← List.take_append_drop (i + 1) xs, late_app, late_take now xs i hi, if_pos hu]
    simp
  subst e
  refine ⟨by simp, ?_⟩
  simp

theorem late_more {now later : Int} (h : now ≤ later) : ∀ xs : LS, (lateL now xs).length ≤ (lateL later xs).length
  | [] => Nat.le_refl _
  | x :: xs => by
    have ih := late_more h xs
    unfold lateL at *
    by_cases h1 : x.u < now
    · have h2 : x.u < later := by omega
      simp [h1, h2] at ih ⊢; exact ih
    · by_cases h2 : x.u < later
      · simp [h1, h2] at ih ⊢; omega
      · simp [h1, h2] at ih ⊢; exact ih

/-! ### a lease that is put -/
theorem mem_put {xs : LS} {x y : Ls} : y ∈ putL xs x ↔ (y ∈ xs ∧ y.c < x.c) ∨ y = x ∨ (y ∈ xs ∧ x.c < y.c) := by
  unfold putL
  simp [List.mem_append, List.mem_filter]

theorem put_right {xs : LS} {x : Ls} (h : Rt xs) (hx : 0 ≤ x.c ∧ x.c < 4 ∧ 0 ≤ x.u ∧ x.u ≤ 9007199254740991) : Rt (putL xs x) := by
  refine ⟨fun y hy => ?_, ?_⟩
  · rcases mem_put.1 hy with ⟨h1, _⟩ | rfl | ⟨h1, _⟩
    · exact h.ok y h1
    · exact hx
    · exact h.ok y h1
  · unfold putL
    rw [List.pairwise_append, List.pairwise_append]
    refine ⟨⟨h.up.filter _, List.pairwise_singleton _ _, fun a ha b hb => ?_⟩, h.up.filter _, fun a ha b hb => ?_⟩
    · have := (List.mem_filter.1 ha).2
      rw [List.mem_singleton.1 hb]
      simpa using this
    · have hb2 : x.c < b.c := by simpa using (List.mem_filter.1 hb).2
      rcases List.mem_append.1 ha with ha | ha
      · have : a.c < x.c := by simpa using (List.mem_filter.1 ha).2
        omega
      · rw [List.mem_singleton.1 ha]; exact hb2

/-- What is there is found. -/
theorem find_mem {xs : LS} (h : Rt xs) {y : Ls} (hy : y ∈ xs) : findX xs y.c = (y.u, true) := by
  obtain ⟨i, hi, rfl⟩ := List.mem_iff_getElem.1 hy
  refine find_here hi rfl (fun j hj hji => ?_)
  have := up_at h.up hi hji
  omega
theorem find_out {xs : LS} {c : Int} (h : ∀ y ∈ xs, y.c ≠ c) : findX xs c = (0, false) := find_none (fun _ hj => h _ (List.getElem_mem hj))
theorem find_cases (xs : LS) (c : Int) : (∃ y ∈ xs, y.c = c ∧ findX xs c = (y.u, true)) ∨ ((∀ y ∈ xs, y.c ≠ c) ∧ findX xs c = (0, false)) := by
  unfold findX
  cases hf : xs.find? (isAt c) with
  | none =>
    refine .inr ⟨fun y hy e => ?_, rfl⟩
    have := List.find?_eq_none.1 hf y hy
    simp [isAt, e] at this
  | some y =>
    refine .inl ⟨y, List.mem_of_find?_eq_some hf, ?_, rfl⟩
    have := List.find?_some hf
    simpa [isAt] using this

theorem put_find {xs : LS} {x : Ls} (h : Rt (putL xs x)) : findX (putL xs x) x.c = (x.u, true) := find_mem h (mem_put.2 (.inr (.inl rfl)))
theorem put_other {xs : LS} {x : Ls} (h : Rt (putL xs x)) {y : Ls} (hy : y ∈ xs) (hc : y.c ≠ x.c) : findX (putL xs x) y.c = (y.u, true) := by
  refine find_mem h (mem_put.2 ?_)
  by_cases hl : y.c < x.c
  · exact .inl ⟨hy, hl⟩
  · exact .inr (.inr ⟨hy, by omega⟩)

theorem drop_find {xs : LS} {c : Int} : findX (dropL c xs) c = (0, false) := find_out fun y hy => by
  have := (List.mem_filter.1 hy).2
  simpa using this
theorem drop_one {xs : LS} (h : Rt xs) {y : Ls} (hy : y ∈ xs) : (dropL y.c xs).length + 1 = xs.length := by
  have hp := h.up
  clear h
  induction xs with
  | nil => cases hy
  | cons x xs ih =>
    obtain ⟨hp1, hp2⟩ := List.pairwise_cons.1 hp
    rcases List.mem_cons.1 hy with rfl | hy
    · have : dropL y.c (y :: xs) = xs := by
        unfold dropL
        rw [List.filter_cons_of_neg (by simp), List.filter_eq_self]
        intro a ha
        have := hp1 a ha
        simp; omega
      rw [this]; rfl
    · have h1 := hp1 y hy
      have : dropL y.c (x :: xs) = x :: dropL y.c xs := by
        unfold dropL
        rw [List.filter_cons_of_pos (by simp; omega)]
      rw [this, List.length_cons, List.length_cons, ih hy hp2]

theorem late_not {now : Int} {xs : LS} (h : Rt xs) {y : Ls} (hy : y ∈ xs) (hu : now ≤ y.u) : ∀ z ∈ lateL now xs, z ≠ y.c := by
  intro z hz e
  unfold lateL at hz
  obtain ⟨a, ha, rfl⟩ := List.mem_map.1 hz
  obtain ⟨ha1, ha2⟩ := List.mem_filter.1 ha
  have ha3 : a.u < now := by simpa using ha2
  have h1 := find_mem h ha1
  have h2 := find_mem h hy
  rw [e, h2] at h1
  simp only [Prod.mk.injEq] at h1
  omega

/-- What is renewed. -/
structure Ren (xs ys : LS) (c now u : Int) : Prop where
  right : Rt ys
  find : findX ys c = (u, true)
  ge : now + 10 ≤ u
  le : u ≤ 9007199254740991
  len : ys.length ≤ xs.length + 1
  mem : ∃ y ∈ ys, y.c = c ∧ y.u = u
  keep : ∀ y ∈ xs, ∃ u2, y.u ≤ u2 ∧ findX ys y.c = (u2, true)

theorem find_le {xs : LS} (h : Rt xs) (c : Int) : 0 ≤ (findX xs c).1 ∧ (findX xs c).1 ≤ 9007199254740991 := by
  rcases find_cases xs c with ⟨y, hy, _, e⟩ | ⟨_, e⟩
  · rw [e]; exact ⟨(h.ok y hy).2.2.1, (h.ok y hy).2.2.2⟩
  · rw [e]; decide

theorem put_len {xs : LS} {x : Ls} : (putL xs x).length ≤ xs.length + 1 := by
  unfold putL
  rw [List.length_append, List.length_append, List.length_singleton]
  induction xs with
  | nil => simp
  | cons y ys ih =>
    by_cases h1 : y.c < x.c
    · have h2 : ¬ x.c < y.c := by omega
      simp [h1, h2] at ih ⊢; omega
    · by_cases h2 : x.c < y.c
      · simp [h1, h2] at ih ⊢; omega
      · simp [h1, h2] at ih ⊢; omega

theorem ren_of {xs : LS} {c now : Int} (h : Rt xs) (hc : 0 ≤ c ∧ c < 4) (h1 : 0 ≤ now) (h2 : now ≤ 9007199254740981) : Ren xs (putL xs ⟨c, max (findX xs c).1 (now + 10)⟩) c now (max (findX xs c).1 (now + 10)) := by
  have hf := find_le h c
  have hM : now + 10 ≤ max (findX xs c).1 (now + 10) ∧ (findX xs c).1 ≤ max (findX xs c).1 (now + 10) ∧ max (findX xs c).1 (now + 10) ≤ 9007199254740991 := by omega
  have hfc := find_cases xs c
  generalize hfx : findX xs c = F at *
  obtain ⟨f, b⟩ := F
  simp only at *
  generalize max f (now + 10) = M at *
  have hR : Rt (putL xs ⟨c, M⟩) := put_right h ⟨hc.1, hc.2, by show 0 ≤ M; omega, hM.2.2⟩
  refine ⟨hR, put_find hR, hM.1, hM.2.2, put_len, ⟨⟨c, M⟩, mem_put.2 (.inr (.inl rfl)), rfl, rfl⟩, fun y hy => ?_⟩
  by_cases e : y.c = c
  · refine ⟨M, ?_, by rw [e]; exact put_find (x := ⟨c, M⟩) hR⟩
    have := find_mem h hy
    rw [e, hfx] at this
    simp only [Prod.mk.injEq] at this
    omega
  · exact ⟨y.u, Int.le_refl _, put_other hR hy e⟩

end Go.Proofs.Ytflccniidaogiaa.Lea
