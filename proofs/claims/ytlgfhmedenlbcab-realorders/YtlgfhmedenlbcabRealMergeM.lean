/- Plain: how one is moved to its place, how two rows in order are merged, and blocks in order. No program in it. -/
import Derived.Test.YtlgfhmedenlbcabRealSortM
namespace Go.Proofs.Ytlgfhmedenlbcab

/-- The m-th has been moved down to place k, the others between up by one. -/
structure ShiftR (k m : Nat) (xs cur : List Nat) : Prop where
  len : cur.length = xs.length
  perm : cur.Perm xs
  here : at0 cur k = at0 xs m
  up : ∀ t, k < t → t ≤ m → at0 cur t = at0 xs (t - 1)
  out : ∀ t, t < k ∨ m < t → at0 cur t = at0 xs t
theorem ShiftR.start (m : Nat) (xs : List Nat) : ShiftR m m xs xs := ⟨rfl, List.Perm.refl _, rfl, fun t h1 h2 => by omega, fun _ _ => rfl⟩
theorem ShiftR.next {k m : Nat} {xs cur : List Nat} (h : ShiftR (k + 1) m xs cur) (hk : k + 1 ≤ m) (hm : m < xs.length) : ShiftR k m xs (swp cur (k + 1) k) := by
  have hl := h.len
  have sw := fun t => swp_at cur (k + 1) k t (by omega) (by omega)
  refine ⟨by rw [swp_len, hl], (swp_perm _ _ _ (by omega) (by omega)).trans h.perm, ?_, fun t h1 h2 => ?_, fun t ht => ?_⟩
  · rw [sw, if_pos rfl]; exact h.here
  · rw [sw, if_neg (by omega)]
    by_cases e : k + 1 = t
    · subst e; rw [if_pos rfl, h.out k (by omega)]; congr 1
    · rw [if_neg e]; exact h.up t (by omega) h2
  · rw [sw, if_neg (by omega), if_neg (by omega)]; exact h.out t (by omega)
theorem ShiftR.moved {k m a : Nat} {xs cur : List Nat} (h : ShiftR k m xs cur) (ha : a ≤ k) (hk : k ≤ m) : Moved a (m + 1) xs cur := by
  refine ⟨h.len, h.perm, fun t ht => h.out t (by omega), fun t h1 h2 => ?_⟩
  by_cases e : t = k
  · subst e; exact ⟨m, by omega, by omega, h.here⟩
  · by_cases e2 : k < t
    · exact ⟨t - 1, by omega, by omega, h.up t e2 (by omega)⟩
    · exact ⟨t, h1, h2, h.out t (by omega)⟩
theorem ShiftR.sorted {k m a : Nat} {xs cur : List Nat} (h : ShiftR k m xs cur) (hs : Srt a m xs) (ha : a ≤ k) (hk : k ≤ m)
    (h1 : ∀ t, a ≤ t → t < k → key (at0 xs t) ≤ key (at0 xs m)) (h2 : ∀ t, k ≤ t → t < m → key (at0 xs m) ≤ key (at0 xs t)) : Srt a (m + 1) cur := by
  have val : ∀ t, t ≤ m → at0 cur t = at0 xs (if t < k then t else if t = k then m else t - 1) := by
    intro t ht
    by_cases e : t < k
    · rw [if_pos e]; exact h.out t (by omega)
    · rw [if_neg e]
      by_cases e2 : t = k
      · rw [if_pos e2, e2]; exact h.here
      · rw [if_neg e2]; exact h.up t (by omega) ht
  intro i j hi hij hj
  rw [val i (by omega), val j (by omega)]
  by_cases e : i < k
  · rw [if_pos e]
    by_cases e2 : j < k
    · rw [if_pos e2]; exact hs i j hi hij (by omega)
    · rw [if_neg e2]
      by_cases e3 : j = k
      · rw [if_pos e3]; exact h1 i hi e
      · rw [if_neg e3]; exact hs i (j - 1) hi (by omega) (by omega)
  · rw [if_neg e, if_neg (show ¬ j < k by omega)]
    by_cases e2 : i = k
    · rw [if_pos e2]
      by_cases e3 : j = k
      · rw [if_pos e3]; exact Int.le_refl _
      · rw [if_neg e3]; exact h2 (j - 1) (by omega) (by omega)
    · rw [if_neg e2, if_neg (by omega)]; exact hs (i - 1) (j - 1) (by omega) (by omega) (by omega)

/-- The a-th has been moved up to place k, the others between down by one. -/
structure ShiftL (k a : Nat) (xs cur : List Nat) : Prop where
  len : cur.length = xs.length
  perm : cur.Perm xs
  here : at0 cur k = at0 xs a
  down : ∀ t, a ≤ t → t < k → at0 cur t = at0 xs (t + 1)
  out : ∀ t, t < a ∨ k < t → at0 cur t = at0 xs t
theorem ShiftL.start (a : Nat) (xs : List Nat) : ShiftL a a xs xs := ⟨rfl, List.Perm.refl _, rfl, fun t h1 h2 => by omega, fun _ _ => rfl⟩
theorem ShiftL.next {k a : Nat} {xs cur : List Nat} (h : ShiftL k a xs cur) (hk : a ≤ k) (hm : k + 1 < xs.length) : ShiftL (k + 1) a xs (swp cur k (k + 1)) := by
  have hl := h.len
  have sw := fun t => swp_at cur k (k + 1) t (by omega) (by omega)
  refine ⟨by rw [swp_len, hl], (swp_perm _ _ _ (by omega) (by omega)).trans h.perm, ?_, fun t h1 h2 => ?_, fun t ht => ?_⟩
  · rw [sw, if_pos rfl]; exact h.here
  · rw [sw, if_neg (by omega)]
    by_cases e : k = t
    · subst e; rw [if_pos rfl]; exact h.out _ (by omega)
    · rw [if_neg e]; exact h.down t h1 (by omega)
  · rw [sw, if_neg (by omega), if_neg (by omega)]; exact h.out t (by omega)
theorem ShiftL.moved {k a b : Nat} {xs cur : List Nat} (h : ShiftL k a xs cur) (ha : a ≤ k) (hk : k < b) : Moved a b xs cur := by
  refine ⟨h.len, h.perm, fun t ht => h.out t (by omega), fun t h1 h2 => ?_⟩
  by_cases e : t = k
  · subst e; exact ⟨a, by omega, by omega, h.here⟩
  · by_cases e2 : t < k
    · exact ⟨t + 1, by omega, by omega, h.down t h1 e2⟩
    · exact ⟨t, h1, h2, h.out t (by omega)⟩
theorem ShiftL.sorted {k a b : Nat} {xs cur : List Nat} (h : ShiftL k a xs cur) (hs : Srt (a + 1) b xs) (ha : a ≤ k) (hk : k < b)
    (h1 : ∀ t, a < t → t ≤ k → key (at0 xs t) ≤ key (at0 xs a)) (h2 : ∀ t, k < t → t < b → key (at0 xs a) ≤ key (at0 xs t)) : Srt a b cur := by
  have val : ∀ t, a ≤ t → at0 cur t = at0 xs (if t < k then t + 1 else if t = k then a else t) := by
    intro t ht
    by_cases e : t < k
    · rw [if_pos e]; exact h.down t ht e
    · rw [if_neg e]
      by_cases e2 : t = k
      · rw [if_pos e2, e2]; exact h.here
      · rw [if_neg e2]; exact h.out t (by omega)
  intro i j hi hij hj
  rw [val i (by omega), val j (by omega)]
  by_cases e : i < k
  · rw [if_pos e]
    by_cases e2 : j < k
    · rw [if_pos e2]; exact hs (i + 1) (j + 1) (by omega) (by omega) (by omega)
    · rw [if_neg e2]
      by_cases e3 : j = k
      · rw [if_pos e3]; exact h1 (i + 1) (by omega) (by omega)
      · rw [if_neg e3]; exact hs (i + 1) j (by omega) (by omega) hj
  · rw [if_neg e, if_neg (show ¬ j < k by omega)]
    by_cases e2 : i = k
    · rw [if_pos e2]
      by_cases e3 : j = k
      · rw [if_pos e3]; exact Int.le_refl _
      · rw [if_neg e3]; exact h2 j (by omega) hj
    · rw [if_neg e2, if_neg (by omega)]; exact hs i j (by omega) hij hj

theorem Rotated.same_l {m b : Nat} (xs : List Nat) (h : m ≤ b) : Rotated m m b xs xs := by
  refine ⟨rfl, List.Perm.refl _, fun k => ?_⟩
  congr 1
  unfold rotI
  by_cases c : k < m ∨ b ≤ k
  · rw [if_pos c]
  · rw [if_neg c, if_pos (by omega)]; omega
theorem Rotated.same_r (a m : Nat) (xs : List Nat) : Rotated a m m xs xs := by
  refine ⟨rfl, List.Perm.refl _, fun k => ?_⟩
  congr 1
  unfold rotI
  by_cases c : k < a ∨ m ≤ k
  · rw [if_pos c]
  · rw [if_neg c, if_neg (by omega)]; omega

/-- What symMerge has at its cut: from a, m, b and mid to start, and its end. -/
structure CutAt (a m b mid start : Nat) (xs : List Nat) : Prop where
  ls : a ≤ start
  lm : start ≤ m
  ld : start ≤ mid
  le : mid + m - start ≤ b
  left : a < start → mid + m - start < b → key (at0 xs (start - 1)) ≤ key (at0 xs (mid + m - start))
  right : start < m → start < mid → key (at0 xs (mid + m - start - 1)) ≤ key (at0 xs start)

theorem cut_parts {a m b mid start : Nat} {xs ys : List Nat} (hm1 : a < m) (hm2 : m < b) (hmid : mid = (a + b) / 2) (s1 : Srt a m xs) (s2 : Srt m b xs) (h : CutAt a m b mid start xs) (r : Rotated start m (mid + m - start) xs ys) :
    Srt a start ys ∧ Srt start mid ys ∧ Srt mid (mid + m - start) ys ∧ Srt (mid + m - start) b ys ∧ Cross a mid b ys := by
  have q1 := h.ls; have q2 := h.lm; have q3 := h.ld; have q4 := h.le
  have src : ∀ k, at0 ys k = at0 xs (rotI start m (mid + m - start) k) := r.at_
  have v1 : ∀ k, k < start → rotI start m (mid + m - start) k = k := fun k hk => by unfold rotI; rw [if_pos (by omega)]
  have v2 : ∀ k, start ≤ k → k < mid → rotI start m (mid + m - start) k = k + (m - start) := fun k h1 h2 => by unfold rotI; rw [if_neg (by omega), if_pos (by omega)]
  have v3 : ∀ k, mid ≤ k → k < mid + m - start → rotI start m (mid + m - start) k = k - (mid - start) := fun k h1 h2 => by unfold rotI; rw [if_neg (by omega), if_neg (by omega)]; omega
  have v4 : ∀ k, mid + m - start ≤ k → rotI start m (mid + m - start) k = k := fun k hk => by unfold rotI; rw [if_pos (by omega)]
  refine ⟨?_, ?_, ?_, ?_, ?_⟩
  · intro i j h1 h2 h3
    rw [src, src, v1 i (by omega), v1 j (by omega)]; exact s1 i j h1 h2 (by omega)
  · intro i j h1 h2 h3
    rw [src, src, v2 i (by omega) (by omega), v2 j (by omega) (by omega)]; exact s2 _ _ (by omega) (by omega) (by omega)
  · intro i j h1 h2 h3
    rw [src, src, v3 i (by omega) (by omega), v3 j (by omega) (by omega)]; exact s1 _ _ (by omega) (by omega) (by omega)
  · intro i j h1 h2 h3
    rw [src, src, v4 i (by omega), v4 j (by omega)]; exact s2 i j (by omega) h2 h3
  · intro i j h1 h2 h3 h4
    rw [src, src]
    by_cases ci : i < start
    · rw [v1 i ci]
      by_cases cj : j < mid + m - start
      · rw [v3 j h3 cj]; exact s1 _ _ (by omega) (by omega) (by omega)
      · rw [v4 j (by omega)]
        have hl := h.left (by omega) (by omega)
        have e1 := s1 i (start - 1) h1 (by omega) (by omega)
        have e2 := s2 (mid + m - start) j (by omega) (by omega) h4
        omega
    · rw [v2 i (by omega) h2]
      by_cases cj : j < mid + m - start
      · rw [v3 j h3 cj]
        have hr := h.right (by omega) (by omega)
        have e1 := s2 (i + (m - start)) (mid + m - start - 1) (by omega) (by omega) (by omega)
        have e2 := s1 start (j - (mid - start)) (by omega) (by omega) (by omega)
        omega
      · rw [v4 j (by omega)]; exact s2 _ _ (by omega) (by omega) (by omega)

/-- The search for the cut: its place is between s and r. -/
structure Seek (a m b mid s r : Nat) (xs : List Nat) : Prop where
  lo : a ≤ s ∧ mid + m ≤ s + b
  sr : s ≤ r
  hi : r ≤ m ∧ r ≤ mid
  low : s = a ∨ s + b = mid + m ∨ a < s ∧ key (at0 xs (s - 1)) ≤ key (at0 xs (mid + m - s))
  high : r = m ∨ r = mid ∨ key (at0 xs (mid + m - r - 1)) < key (at0 xs r)
theorem Seek.up {a m b mid s r c : Nat} {xs : List Nat} (h : Seek a m b mid s r xs) (h1 : s ≤ c) (h2 : c < r) (hk : ¬ key (at0 xs (mid + m - 1 - c)) < key (at0 xs c)) : Seek a m b mid (c + 1) r xs := by
  have q1 := h.lo; have q2 := h.hi
  refine ⟨by omega, by omega, h.hi, .inr (.inr ⟨by omega, ?_⟩), h.high⟩
  rw [show c + 1 - 1 = c by omega, show mid + m - (c + 1) = mid + m - 1 - c by omega]
  omega
theorem Seek.down {a m b mid s r c : Nat} {xs : List Nat} (h : Seek a m b mid s r xs) (h1 : s ≤ c) (h2 : c < r) (hk : key (at0 xs (mid + m - 1 - c)) < key (at0 xs c)) : Seek a m b mid s c xs := by
  have q1 := h.lo; have q2 := h.hi
  refine ⟨h.lo, h1, by omega, h.low, .inr (.inr ?_)⟩
  rw [show mid + m - c - 1 = mid + m - 1 - c by omega]
  exact hk
theorem Seek.done {a m b mid s : Nat} {xs : List Nat} (h : Seek a m b mid s s xs) : CutAt a m b mid s xs := by
  have q1 := h.lo; have q2 := h.hi
  refine ⟨by omega, by omega, by omega, by omega, fun h1 h2 => ?_, fun h1 h2 => ?_⟩
  · rcases h.low with k | k | k
    · omega
    · omega
    · exact k.2
  · rcases h.high with k | k | k
    · omega
    · omega
    · omega

/-! Blocks -/
/-- Up to n each block of c is in order. -/
def Blk (c n : Nat) (xs : List Nat) : Prop := ∀ i j, i ≤ j → j < n → i / c = j / c → key (at0 xs i) ≤ key (at0 xs j)
/-- Below a in blocks of 2c, from a to n in blocks of c. -/
def Blk2 (c a n : Nat) (xs : List Nat) : Prop := (∀ i j, i ≤ j → j < a → i / (2 * c) = j / (2 * c) → key (at0 xs i) ≤ key (at0 xs j)) ∧ (∀ i j, a ≤ i → i ≤ j → j < n → i / c = j / c → key (at0 xs i) ≤ key (at0 xs j))
end Go.Proofs.Ytlgfhmedenlbcab
