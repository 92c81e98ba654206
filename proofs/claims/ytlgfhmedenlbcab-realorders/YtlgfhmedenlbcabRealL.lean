/- Plain: the order of all fractions by one whole number each; what is less, even, greater to the machine. No program in it. -/
import Derived.Test.YtlgfhmedenlbcabRealR
namespace Go.Proofs.Ytlgfhmedenlbcab

/-- Are these bits of what is not a number? -/
def isN (b : Nat) : Bool := FloatKind.f64.format.order b b != some Ordering.eq
theorem fo_eq (x y : Nat) : FloatKind.f64.format.order x y = if infR < rg x ∨ infR < rg y then none else some (compare (sr x) (sr y)) := order_eq x y

theorem isN_eq (b : Nat) : isN b = decide (infR < rg b) := by
  unfold isN
  rw [fo_eq]
  by_cases h : infR < rg b
  · rw [if_pos (.inl h), decide_eq_true h]; rfl
  · rw [if_neg (by omega), decide_eq_false h, cmp_int, if_neg (by omega), if_pos rfl]; rfl
theorem nan_yes {b : Nat} (h : isN b = true) : infR < rg b := by rw [isN_eq] at h; exact of_decide_eq_true h
theorem nan_no {b : Nat} (h : isN b = false) : rg b ≤ infR := by rw [isN_eq] at h; have := of_decide_eq_false h; omega
theorem nan_of {b : Nat} (h : rg b ≤ infR) : isN b = false := by rw [isN_eq]; exact decide_eq_false (by omega)

theorem fo_nan_l {a : Nat} (b : Nat) (h : isN a = true) : FloatKind.f64.format.order a b = none := by
  rw [fo_eq, if_pos (.inl (nan_yes h))]
theorem fo_nan_r (a : Nat) {b : Nat} (h : isN b = true) : FloatKind.f64.format.order a b = none := by
  rw [fo_eq, if_pos (.inr (nan_yes h))]
theorem fo_lt {a b : Nat} (ha : isN a = false) (hb : isN b = false) (h : sr a < sr b) : FloatKind.f64.format.order a b = some .lt := by
  have := nan_no ha; have := nan_no hb
  rw [fo_eq, if_neg (by omega), ← cmp_lt h]
theorem fo_gt {a b : Nat} (ha : isN a = false) (hb : isN b = false) (h : sr b < sr a) : FloatKind.f64.format.order a b = some .gt := by
  have := nan_no ha; have := nan_no hb
  rw [fo_eq, if_neg (by omega), ← cmp_gt h]
theorem fo_eqv {a b : Nat} (ha : isN a = false) (hb : isN b = false) (h : sr a = sr b) : FloatKind.f64.format.order a b = some .eq := by
  have := nan_no ha; have := nan_no hb
  rw [fo_eq, if_neg (by omega), cmp_int, if_neg (by omega), if_pos h]
/-- One of three. -/
theorem fo_three {a b : Nat} (ha : isN a = false) (hb : isN b = false) : (sr a < sr b ∧ FloatKind.f64.format.order a b = some .lt ∧ FloatKind.f64.format.order b a = some .gt) ∨ (sr a = sr b ∧ FloatKind.f64.format.order a b = some .eq ∧ FloatKind.f64.format.order b a = some .eq) ∨ (sr b < sr a ∧ FloatKind.f64.format.order a b = some .gt ∧ FloatKind.f64.format.order b a = some .lt) := by
  rcases Int.lt_trichotomy (sr a) (sr b) with h | h | h
  · exact .inl ⟨h, fo_lt ha hb h, fo_gt hb ha h⟩
  · exact .inr (.inl ⟨h, fo_eqv ha hb h, fo_eqv hb ha h.symm⟩)
  · exact .inr (.inr ⟨h, fo_gt ha hb h, fo_lt hb ha h⟩)
/-- The other way: what the machine said. -/
theorem fo_some {a b : Nat} {o : Ordering} (h : FloatKind.f64.format.order a b = some o) : isN a = false ∧ isN b = false ∧ compare (sr a) (sr b) = o := by
  rw [fo_eq] at h
  by_cases k : infR < rg a ∨ infR < rg b
  · rw [if_pos k] at h; cases h
  · rw [if_neg k] at h
    injection h with h
    exact ⟨nan_of (by omega), nan_of (by omega), h⟩
theorem fo_some_lt {a b : Nat} (h : FloatKind.f64.format.order a b = some .lt) : isN a = false ∧ isN b = false ∧ sr a < sr b := by
  obtain ⟨h1, h2, h3⟩ := fo_some h
  refine ⟨h1, h2, ?_⟩
  rw [cmp_int] at h3
  by_cases k : sr a < sr b
  · exact k
  · rw [if_neg k] at h3; split at h3 <;> cases h3

/-- Where a fraction stands among all. -/
def key (x : Nat) : Int := if isN x then 9223372036854775808 else if sg x then -(rg x : Int) - 1 else rg x
def cmpZ (a b : Int) : Int := if a < b then -1 else if b < a then 1 else 0

theorem key_nan {x : Nat} (h : isN x = true) : key x = 9223372036854775808 := by unfold key; rw [if_pos h]
theorem key_num {x : Nat} (h : isN x = false) : key x = if sg x then -(rg x : Int) - 1 else rg x := by unfold key; rw [h]; rfl
theorem key_lt_nan {x : Nat} (h : isN x = false) : key x < 9223372036854775808 := by
  have := nan_no h
  unfold infR at this
  rw [key_num h]; split <;> omega

theorem key_sr {a b : Nat} (ha : isN a = false) (hb : isN b = false) (h : sr a < sr b) : key a < key b := by
  rw [key_num ha, key_num hb]
  unfold sr at h
  cases hs : sg a <;> cases ht : sg b <;> simp [hs, ht] at * <;> omega
theorem key_le_sr {a b : Nat} (ha : isN a = false) (hb : isN b = false) (h : key a ≤ key b) : sr a ≤ sr b := by
  rw [key_num ha, key_num hb] at h
  unfold sr
  cases hs : sg a <;> cases ht : sg b <;> simp [hs, ht] at * <;> omega

theorem ord_cases (a b : Nat) :
    (isN a = true ∧ isN b = true ∧ cmpZ (key a) (key b) = 0) ∨ (isN a = true ∧ isN b = false ∧ cmpZ (key a) (key b) = 1) ∨ (isN a = false ∧ isN b = true ∧ cmpZ (key a) (key b) = -1) ∨
    (isN a = false ∧ isN b = false ∧ FloatKind.f64.format.order a b = some .lt ∧ FloatKind.f64.format.order b a = some .gt ∧ cmpZ (key a) (key b) = -1) ∨
    (isN a = false ∧ isN b = false ∧ FloatKind.f64.format.order a b = some .gt ∧ FloatKind.f64.format.order b a = some .lt ∧ cmpZ (key a) (key b) = 1) ∨
    (isN a = false ∧ isN b = false ∧ FloatKind.f64.format.order a b = some .eq ∧ FloatKind.f64.format.order b a = some .eq ∧ sr a = sr b ∧
      (sg a = sg b ∧ cmpZ (key a) (key b) = 0 ∨ sg a = true ∧ sg b = false ∧ sr a = 0 ∧ cmpZ (key a) (key b) = -1 ∨ sg a = false ∧ sg b = true ∧ sr a = 0 ∧ cmpZ (key a) (key b) = 1)) := by
  have z1 : ∀ {x y : Int}, x < y → cmpZ x y = -1 := fun h => by unfold cmpZ; rw [if_pos h]
  have z2 : ∀ {x y : Int}, y < x → cmpZ x y = 1 := fun h => by unfold cmpZ; rw [if_neg (by omega), if_pos h]
  have z0 : ∀ {x y : Int}, y = x → cmpZ x y = 0 := fun h => by unfold cmpZ; rw [if_neg (by omega), if_neg (by omega)]
  cases ha : isN a <;> cases hb : isN b
  · rcases fo_three ha hb with ⟨h, h1, h2⟩ | ⟨h, h1, h2⟩ | ⟨h, h1, h2⟩
    · exact .inr (.inr (.inr (.inl ⟨rfl, rfl, h1, h2, z1 (key_sr ha hb h)⟩)))
    · refine .inr (.inr (.inr (.inr (.inr ⟨rfl, rfl, h1, h2, h, ?_⟩))))
      rw [key_num ha, key_num hb]
      unfold sr at h
      unfold sr
      cases hs : sg a <;> cases ht : sg b
      · refine .inl ⟨rfl, z0 ?_⟩
        simp [hs, ht] at *; omega
      · refine .inr (.inr ⟨rfl, rfl, ?_, z2 ?_⟩) <;> simp [hs, ht] at * <;> omega
      · refine .inr (.inl ⟨rfl, rfl, ?_, z1 ?_⟩) <;> simp [hs, ht] at * <;> omega
      · refine .inl ⟨rfl, z0 ?_⟩
        simp [hs, ht] at *; omega
    · exact .inr (.inr (.inr (.inr (.inl ⟨rfl, rfl, h1, h2, z2 (key_sr hb ha h)⟩))))
  · exact .inr (.inr (.inl ⟨rfl, rfl, z1 (by rw [key_nan hb]; exact key_lt_nan ha)⟩))
  · exact .inr (.inl ⟨rfl, rfl, z2 (by rw [key_nan ha]; exact key_lt_nan hb)⟩)
  · exact .inl ⟨rfl, rfl, z0 (by rw [key_nan ha, key_nan hb])⟩

/-- Even just of the same bits, and of what is not a number. -/
theorem key_same {a b : Nat} (ha : a < 18446744073709551616) (hb : b < 18446744073709551616) (h : key a = key b) : isN a = true ∧ isN b = true ∨ a = b := by
  cases na : isN a <;> cases nb : isN b
  · refine .inr ?_
    rw [key_num na, key_num nb] at h
    rw [← word_back ha, ← word_back hb]
    cases hs : sg a <;> cases ht : sg b <;> simp [hs, ht] at h
    · rw [show rg a = rg b by omega]
    · omega
    · omega
    · rw [show rg a = rg b by omega]
  · have := key_lt_nan na; rw [key_nan nb] at h; omega
  · have := key_lt_nan nb; rw [key_nan na] at h; omega
  · exact .inl ⟨rfl, rfl⟩

/-- The document's own: what stands for a fraction. -/
def kf (a : Nat) : Nat := if isN a then 0 else if sr a = 0 ∧ sg a = true then 0 else a
theorem sr_zero : sr 0 = 0 := by decide
theorem nan_zero : isN 0 = false := by decide +kernel
theorem kf_nan (a : Nat) : isN (kf a) = false := by
  unfold kf
  split
  · exact nan_zero
  · split
    · exact nan_zero
    · rename_i h _; cases h2 : isN a
      · rfl
      · exact absurd h2 h
theorem kf_sr {a : Nat} (h : isN a = false) : sr (kf a) = sr a := by
  unfold kf
  rw [h]
  simp only [Bool.false_eq_true, if_false]
  split
  · rename_i h; rw [h.1]; exact sr_zero
  · rfl
end Go.Proofs.Ytlgfhmedenlbcab
