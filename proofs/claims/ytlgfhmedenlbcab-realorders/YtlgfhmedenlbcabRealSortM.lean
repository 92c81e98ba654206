/- Plain: rows of fractions by their keys: what is swapped, turned round, merged, sorted. No program in it. -/
import Derived.Test.YtlgfhmedenlbcabRealL
namespace Go.Proofs.Ytlgfhmedenlbcab

/-- The j-th of a row. -/
def at0 (xs : List Nat) (j : Nat) : Nat := xs.getD j 0
theorem at0_eq (xs : List Nat) (j : Nat) (h : j < xs.length) : at0 xs j = xs[j] := by simp [at0, List.getD, List.getElem?_eq_getElem h]
theorem at0_set (xs : List Nat) (i z j : Nat) (h : i < xs.length) : at0 (xs.set i z) j = if i = j then z else at0 xs j := by
  unfold at0 List.getD
  rw [List.getElem?_set]
  by_cases e : i = j
  · rw [if_pos e, if_pos e, if_pos h]; rfl
  · rw [if_neg e, if_neg e]

/-- Two of a row, swapped. -/
def swp (xs : List Nat) (i j : Nat) : List Nat := (xs.set i (at0 xs j)).set j (at0 xs i)
theorem swp_len (xs : List Nat) (i j : Nat) : (swp xs i j).length = xs.length := by simp [swp]
theorem swp_at (xs : List Nat) (i j k : Nat) (hi : i < xs.length) (hj : j < xs.length) : at0 (swp xs i j) k = if j = k then at0 xs i else if i = k then at0 xs j else at0 xs k := by
  unfold swp
  rw [at0_set _ _ _ _ (by simpa using hj), at0_set _ _ _ _ hi]
theorem swp_perm (xs : List Nat) (i j : Nat) (hi : i < xs.length) (hj : j < xs.length) : (swp xs i j).Perm xs := by
  unfold swp
  rw [at0_eq _ _ hi, at0_eq _ _ hj]
  exact List.set_set_perm hi hj

/-- Only what stands from a to b has moved. -/
structure Moved (a b : Nat) (xs ys : List Nat) : Prop where
  len : ys.length = xs.length
  perm : ys.Perm xs
  out : ∀ k, k < a ∨ b ≤ k → at0 ys k = at0 xs k
  into : ∀ k, a ≤ k → k < b → ∃ j, a ≤ j ∧ j < b ∧ at0 ys k = at0 xs j

theorem Moved.refl (a b : Nat) (xs : List Nat) : Moved a b xs xs := ⟨rfl, List.Perm.refl _, fun _ _ => rfl, fun k h1 h2 => ⟨k, h1, h2, rfl⟩⟩
theorem Moved.trans {a b : Nat} {xs ys zs : List Nat} (h : Moved a b xs ys) (k : Moved a b ys zs) : Moved a b xs zs := by
  refine ⟨k.len.trans h.len, k.perm.trans h.perm, fun i hi => (k.out i hi).trans (h.out i hi), fun i h1 h2 => ?_⟩
  obtain ⟨j, j1, j2, e⟩ := k.into i h1 h2
  obtain ⟨l, l1, l2, e2⟩ := h.into j j1 j2
  exact ⟨l, l1, l2, e.trans e2⟩
theorem Moved.wide {a b c d : Nat} {xs ys : List Nat} (h : Moved a b xs ys) (hc : c ≤ a) (hd : b ≤ d) : Moved c d xs ys := by
  refine ⟨h.len, h.perm, fun i hi => h.out i (by omega), fun i h1 h2 => ?_⟩
  by_cases k : a ≤ i ∧ i < b
  · obtain ⟨j, j1, j2, e⟩ := h.into i k.1 k.2
    exact ⟨j, by omega, by omega, e⟩
  · exact ⟨i, h1, h2, h.out i (by omega)⟩
theorem Moved.swp {a b : Nat} {xs : List Nat} {i j : Nat} (hi : a ≤ i ∧ i < b) (hj : a ≤ j ∧ j < b) (hb : b ≤ xs.length) : Moved a b xs (swp xs i j) := by
  refine ⟨swp_len _ _ _, swp_perm _ _ _ (by omega) (by omega), fun k hk => ?_, fun k h1 h2 => ?_⟩
  · rw [swp_at _ _ _ _ (by omega) (by omega), if_neg (by omega), if_neg (by omega)]
  · rw [swp_at _ _ _ _ (by omega) (by omega)]
    by_cases e : j = k
    · rw [if_pos e]; exact ⟨i, hi.1, hi.2, rfl⟩
    · rw [if_neg e]
      by_cases e2 : i = k
      · rw [if_pos e2]; exact ⟨j, hj.1, hj.2, rfl⟩
      · rw [if_neg e2]; exact ⟨k, h1, h2, rfl⟩

/-- What stands from a to b is in order. -/
def Srt (a b : Nat) (xs : List Nat) : Prop := ∀ i j, a ≤ i → i ≤ j → j < b → key (at0 xs i) ≤ key (at0 xs j)

theorem Srt.out {a b c d : Nat} {xs ys : List Nat} (h : Srt c d xs) (m : Moved a b xs ys) (hd : d ≤ a ∨ b ≤ c) : Srt c d ys := by
  intro i j h1 h2 h3
  rw [m.out i (by omega), m.out j (by omega)]
  exact h i j h1 h2 h3

/-- All of a to m go not behind all of m to b. -/
def Cross (a m b : Nat) (xs : List Nat) : Prop := ∀ i j, a ≤ i → i < m → m ≤ j → j < b → key (at0 xs i) ≤ key (at0 xs j)
theorem Cross.moved {a m b : Nat} {xs ys zs : List Nat} (h : Cross a m b xs) (p : Moved a m xs ys) (q : Moved m b ys zs) : Cross a m b zs := by
  intro i j h1 h2 h3 h4
  rw [q.out i (by omega)]
  obtain ⟨j', j1, j2, e⟩ := q.into j h3 h4
  rw [e, p.out j' (by omega)]
  obtain ⟨i', i1, i2, e2⟩ := p.into i h1 h2
  rw [e2]
  exact h i' j' i1 i2 j1 j2
theorem Srt.join {a m b : Nat} {xs : List Nat} (h1 : Srt a m xs) (h2 : Srt m b xs) (h : Cross a m b xs) : Srt a b xs := by
  intro i j hi hij hj
  by_cases k1 : j < m
  · exact h1 i j hi hij k1
  · by_cases k2 : i < m
    · exact h i j hi k2 (by omega) hj
    · exact h2 i j (by omega) hij hj

/-! swapRange -/
/-- n of them from a on and from b on, swapped. -/
structure Swapped (a b n : Nat) (xs ys : List Nat) : Prop where
  len : ys.length = xs.length
  perm : ys.Perm xs
  fst : ∀ i, i < n → at0 ys (a + i) = at0 xs (b + i)
  snd : ∀ i, i < n → at0 ys (b + i) = at0 xs (a + i)
  out : ∀ k, (k < a ∨ a + n ≤ k) → (k < b ∨ b + n ≤ k) → at0 ys k = at0 xs k
theorem Swapped.zero (a b : Nat) (xs : List Nat) : Swapped a b 0 xs xs := ⟨rfl, List.Perm.refl _, fun i h => by omega, fun i h => by omega, fun _ _ _ => rfl⟩
theorem Swapped.next {a b n : Nat} {xs ys : List Nat} (h : Swapped a b n xs ys) (hab : a + n < b) (hb : b + n < xs.length) : Swapped a b (n + 1) xs (swp ys (a + n) (b + n)) := by
  have hl := h.len
  have sw := fun k => swp_at ys (a + n) (b + n) k (by omega) (by omega)
  refine ⟨by rw [swp_len, hl], (swp_perm _ _ _ (by omega) (by omega)).trans h.perm, fun i hi => ?_, fun i hi => ?_, fun k h1 h2 => ?_⟩
  · rw [sw]
    by_cases e : i = n
    · subst e; rw [if_neg (by omega), if_pos rfl]; exact h.out _ (by omega) (by omega)
    · rw [if_neg (by omega), if_neg (by omega)]; exact h.fst i (by omega)
  · rw [sw]
    by_cases e : i = n
    · subst e; rw [if_pos rfl]; exact h.out _ (by omega) (by omega)
    · rw [if_neg (by omega), if_neg (by omega)]; exact h.snd i (by omega)
  · rw [sw, if_neg (by omega), if_neg (by omega)]; exact h.out k (by omega) (by omega)

/-! rotate -/
/-- Where the k-th comes from when a to m and m to b change places. -/
def rotI (a m b k : Nat) : Nat := if k < a ∨ b ≤ k then k else if k < a + (b - m) then k + (m - a) else k - (b - m)
/-- ys is xs, with a to m and m to b in each other's place. -/
structure Rotated (a m b : Nat) (xs ys : List Nat) : Prop where
  len : ys.length = xs.length
  perm : ys.Perm xs
  at_ : ∀ k, at0 ys k = at0 xs (rotI a m b k)
/-- What is still to be turned round, out of cur, is what was to be turned round, out of xs. -/
structure Turning (a m b : Nat) (xs cur : List Nat) (i j : Nat) : Prop where
  i0 : 0 < i
  j0 : 0 < j
  lo : a + i ≤ m
  hi : m + j ≤ b
  len : cur.length = xs.length
  perm : cur.Perm xs
  at_ : ∀ k, at0 cur (rotI (m - i) m (m + j) k) = at0 xs (rotI a m b k)
theorem Turning.start {a m b : Nat} (xs : List Nat) (h1 : a < m) (h2 : m < b) : Turning a m b xs xs (m - a) (b - m) := by
  refine ⟨by omega, by omega, by omega, by omega, rfl, List.Perm.refl _, fun k => ?_⟩
  rw [show m - (m - a) = a by omega, show m + (b - m) = b by omega]
theorem Turning.more {a m b : Nat} {xs cur cur' : List Nat} {i j : Nat} (h : Turning a m b xs cur i j) (hij : j < i) (s : Swapped (m - i) m j cur cur') : Turning a m b xs cur' (i - j) j := by
  have h0 := h.i0; have h1 := h.j0; have h2 := h.lo; have h3 := h.hi
  refine ⟨by omega, h1, by omega, h3, s.len.trans h.len, s.perm.trans h.perm, fun k => ?_⟩
  rw [← h.at_ k]
  unfold rotI
  by_cases c1 : k < m - i ∨ m + j ≤ k
  · rw [if_pos (by omega), if_pos c1]; exact s.out k (by omega) (by omega)
  · rw [if_neg c1]
    by_cases c2 : k < m - i + j
    · rw [if_pos (by omega), if_pos (by omega)]
      have := s.fst (k - (m - i)) (by omega)
      rw [show m - i + (k - (m - i)) = k by omega] at this
      rw [this]; congr 1; omega
    · rw [if_neg (by omega), if_neg (show ¬ k < m - i + (m + j - m) by omega)]
      by_cases c3 : k < m - (i - j) + (m + j - m)
      · rw [if_pos c3]
        have := s.snd (k + (m - (m - (i - j))) - m) (by omega)
        rw [show m + (k + (m - (m - (i - j))) - m) = k + (m - (m - (i - j))) by omega] at this
        rw [this]; congr 1; omega
      · rw [if_neg c3, s.out _ (by omega) (by omega)]
theorem Turning.less {a m b : Nat} {xs cur cur' : List Nat} {i j : Nat} (h : Turning a m b xs cur i j) (hij : i < j) (s : Swapped (m - i) (m + j - i) i cur cur') : Turning a m b xs cur' i (j - i) := by
  have h0 := h.i0; have h1 := h.j0; have h2 := h.lo; have h3 := h.hi
  refine ⟨h0, by omega, h2, by omega, s.len.trans h.len, s.perm.trans h.perm, fun k => ?_⟩
  rw [← h.at_ k]
  unfold rotI
  by_cases c1 : k < m - i ∨ m + j ≤ k
  · rw [if_pos (by omega), if_pos c1]; exact s.out k (by omega) (by omega)
  · rw [if_neg c1]
    by_cases c2 : m + (j - i) ≤ k
    · rw [if_pos (by omega), if_neg (by omega)]
      have := s.snd (k - (m + j - i)) (by omega)
      rw [show m + j - i + (k - (m + j - i)) = k by omega] at this
      rw [this]; congr 1; omega
    · rw [if_neg (by omega)]
      by_cases c3 : k < m - i + (m + (j - i) - m)
      · rw [if_pos c3, if_pos (by omega), s.out _ (by omega) (by omega)]
      · rw [if_neg c3]
        by_cases c4 : k < m - i + (m + j - m)
        · rw [if_pos c4]
          have := s.fst (k - (m + (j - i) - m) - (m - i)) (by omega)
          rw [show m - i + (k - (m + (j - i) - m) - (m - i)) = k - (m + (j - i) - m) by omega] at this
          rw [this]; congr 1; omega
        · omega
theorem Turning.done {a m b : Nat} {xs cur cur' : List Nat} {i : Nat} (h : Turning a m b xs cur i i) (s : Swapped (m - i) m i cur cur') : Rotated a m b xs cur' := by
  have h0 := h.i0; have h2 := h.lo; have h3 := h.hi
  refine ⟨s.len.trans h.len, s.perm.trans h.perm, fun k => ?_⟩
  rw [← h.at_ k]
  unfold rotI
  by_cases c1 : k < m - i ∨ m + i ≤ k
  · rw [if_pos c1]; exact s.out k (by omega) (by omega)
  · rw [if_neg c1]
    by_cases c2 : k < m - i + (m + i - m)
    · rw [if_pos c2]
      have := s.fst (k - (m - i)) (by omega)
      rw [show m - i + (k - (m - i)) = k by omega] at this
      rw [this]; congr 1; omega
    · rw [if_neg c2]
      have := s.snd (k - m) (by omega)
      rw [show m + (k - m) = k by omega] at this
      rw [this]; congr 1; omega
theorem Rotated.moved {a m b : Nat} {xs ys : List Nat} (h : Rotated a m b xs ys) (h1 : a ≤ m) (h2 : m ≤ b) : Moved a b xs ys := by
  refine ⟨h.len, h.perm, fun k hk => ?_, fun k k1 k2 => ?_⟩
  · rw [h.at_, rotI, if_pos hk]
  · refine ⟨rotI a m b k, ?_, ?_, h.at_ k⟩
    · unfold rotI; rw [if_neg (by omega)]; split <;> omega
    · unfold rotI; rw [if_neg (by omega)]; split <;> omega
end Go.Proofs.Ytlgfhmedenlbcab
