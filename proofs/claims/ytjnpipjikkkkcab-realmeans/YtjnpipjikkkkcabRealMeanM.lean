/- Plain: the mean of the numbers of a list that are not endless. No program in it. -/
import Derived.Test.YtjnpipjikkkkcabRealMM
namespace Go.Proofs.Ytjnpipjikkkkcab

theorem add_some {s x : Nat} (hs : isN s = false) (hx : rg x < infR) : ∃ r, FloatKind.f64.format.add s x = some r ∧ isN r = false ∧ r < 18446744073709551616 := by
  have hlt : ∀ r, FloatKind.f64.format.add s x = some r → r < 18446744073709551616 := fun r h => Ieee.Format.add_lt _ h
  have := nan_no hs
  by_cases hi : rg s = infR
  · obtain ⟨m, a, ex, -, -, -⟩ := read_num hx
    have e : FloatKind.f64.format.add s x = some (Ieee.double.word (sg s) infR) := by
      show Ieee.double.add s x = _
      unfold Ieee.Format.add
      rw [read_inf hi, ex]; rfl
    exact ⟨_, e, nan_of (by rw [rg_word _ (Nat.le_refl _)]; exact Nat.le_refl _), hlt _ e⟩
  · obtain ⟨neg, -, -, e⟩ := add_eq (x := s) (y := x) (by omega) hx
    exact ⟨_, e, nan_of (by rw [rg_word _ (Nat.min_le_right _ _)]; exact Nat.min_le_right _ _), hlt _ e⟩

theorem div_some {s y : Nat} (hs : rg s < infR) (hy : rg y < infR) (hy0 : 0 < rg y) : ∃ q, FloatKind.f64.format.div s y = some q ∧ q < 18446744073709551616 := by
  obtain ⟨m, a, ex, hm, -, -⟩ := read_num hs
  obtain ⟨n, b, ey, hn, -, -⟩ := read_num hy
  have hn0 : ¬ n = 0 := by
    intro h
    have := V_pos hy0
    rw [h, Nat.zero_mul] at hn
    omega
  have e : ∃ q, FloatKind.f64.format.div s y = some q := by
    show ∃ q, Ieee.double.div s y = some q
    unfold Ieee.Format.div
    rw [ex, ey]
    simp only [Ieee.Datum.quotient, if_neg hn0, Option.map_some]
    exact ⟨_, rfl⟩
  obtain ⟨q, e⟩ := e
  exact ⟨q, e, Ieee.Format.div_lt _ e⟩

/-- One more of the list. -/
def mStep (p : Nat × Nat) (x : Nat) : Nat × Nat := if rg x < infR then ((FloatKind.f64.format.add p.1 x).getD 0, p.2 + 1) else p
/-- The sum, and how many. -/
def mSum (xs : List Nat) : Nat × Nat := xs.foldl mStep (0, 0)
theorem mSum_next (xs : List Nat) (k : Nat) (h : k < xs.length) : mSum (xs.take (k + 1)) = mStep (mSum (xs.take k)) xs[k] := by
  unfold mSum
  rw [List.take_succ_eq_append_getElem h, List.foldl_append]; rfl
theorem mSum_ok (xs : List Nat) : isN (mSum xs).1 = false ∧ (mSum xs).1 < 18446744073709551616 ∧ (mSum xs).2 ≤ xs.length := by
  suffices ∀ (ys : List Nat) (p : Nat × Nat), isN p.1 = false → p.1 < 18446744073709551616 → isN (ys.foldl mStep p).1 = false ∧ (ys.foldl mStep p).1 < 18446744073709551616 ∧ (ys.foldl mStep p).2 ≤ p.2 + ys.length by
    have := this xs (0, 0) nan_zero (by decide)
    simpa [mSum] using this
  intro ys
  induction ys with
  | nil => intro p h1 h2; exact ⟨h1, h2, by simp⟩
  | cons y ys ih =>
    intro p h1 h2
    rw [List.foldl_cons]
    by_cases hy : rg y < infR
    · obtain ⟨r, e, e1, e2⟩ := add_some h1 hy
      have : mStep p y = (r, p.2 + 1) := by unfold mStep; rw [if_pos hy, e]; rfl
      rw [this]
      obtain ⟨i1, i2, i3⟩ := ih (r, p.2 + 1) e1 e2
      exact ⟨i1, i2, by simp at i3 ⊢; omega⟩
    · have : mStep p y = p := by unfold mStep; rw [if_neg hy]
      rw [this]
      obtain ⟨i1, i2, i3⟩ := ih p h1 h2
      exact ⟨i1, i2, by simp; omega⟩

/-- The mean out of both. -/
def mEnd (s c : Nat) : Nat := if c = 0 then 0 else if rg s = infR then (if sg s then 18442240474082181119 else 9218868437227405311) else (FloatKind.f64.format.div s (floatOfInt .f64 (c : Int))).getD 0
def meanB (xs : List Nat) : Nat := mEnd (mSum xs).1 (mSum xs).2

theorem inf_word {s : Nat} (hs : s < 18446744073709551616) (h : rg s = infR) : s = if sg s then 18442240474082181120 else 9218868437227405312 := by
  have := word_back hs
  rw [h, word_eq] at this
  rw [← this]
  cases sg s <;> rfl
theorem end_cases (s c q : Nat) (hs : s < 18446744073709551616) (hn : isN s = false) (hc : c ≤ 9223372036854775807) (h : mEnd s c = q) :
    c = 0 ∧ q = 0 ∨ 0 < c ∧ s = 18442240474082181120 ∧ q = 18442240474082181119 ∨ 0 < c ∧ s = 9218868437227405312 ∧ q = 9218868437227405311 ∨
    0 < c ∧ rg s < infR ∧ FloatKind.f64.format.div s (floatOfInt .f64 (c : Int)) = some q := by
  unfold mEnd at h
  by_cases h0 : c = 0
  · rw [if_pos h0] at h; exact .inl ⟨h0, h.symm⟩
  rw [if_neg h0] at h
  refine .inr ?_
  by_cases hi : rg s = infR
  · rw [if_pos hi] at h
    have := inf_word hs hi
    cases hg : sg s
    · rw [hg] at h this
      exact .inr (.inl ⟨by omega, this, h.symm⟩)
    · rw [hg] at h this
      exact .inl ⟨by omega, this, h.symm⟩
  · rw [if_neg hi] at h
    have := nan_no hn
    obtain ⟨r, e, -⟩ := div_some (s := s) (y := floatOfInt .f64 (c : Int)) (by omega) (fi_fin (by omega)) (fi_pos (by omega))
    rw [e] at h
    rw [e]
    exact .inr (.inr ⟨by omega, by omega, by rw [← h]; rfl⟩)
theorem meanB_lt (xs : List Nat) (h : xs.length ≤ 9223372036854775807) : meanB xs < 18446744073709551616 := by
  obtain ⟨h1, h2, h3⟩ := mSum_ok xs
  rcases end_cases _ _ _ h2 h1 (by omega) (rfl : mEnd _ _ = meanB xs) with ⟨-, e⟩ | ⟨-, -, e⟩ | ⟨-, -, e⟩ | ⟨h0, hr, e⟩
  · unfold meanB; rw [e]; decide
  · unfold meanB; rw [e]; decide
  · unfold meanB; rw [e]; decide
  · exact Ieee.Format.div_lt _ e
theorem neq_false {x : Nat} (h : isN x = false) : (FloatKind.f64.format.order x x == some .eq) = true := by
  unfold isN at h; simpa using h
theorem neq_true {x : Nat} (h : isN x = true) : (FloatKind.f64.format.order x x == some .eq) = false := by
  unfold isN at h; simpa using h
end Go.Proofs.Ytjnpipjikkkkcab
