/- Plain: blocks in order, merged two by two. No program in it. -/
import Derived.Test.YtlgfhmedenlbcabRealSymM
namespace Go.Proofs.Ytlgfhmedenlbcab

theorem mul_gap {d x A : Nat} (hx : d ∣ x) (hA : d ∣ A) (h : x < A) : x + d ≤ A := by
  have h1 := Nat.dvd_sub hA hx
  have := Nat.le_of_dvd (by omega) h1
  omega
theorem Srt.none {a b : Nat} (xs : List Nat) (h : b ≤ a) : Srt a b xs := fun i j h1 h2 h3 => by omega
theorem Srt.sub {a b c d : Nat} {xs : List Nat} (h : Srt a b xs) (hc : a ≤ c) (hd : d ≤ b) : Srt c d xs := fun i j h1 h2 h3 => h i j (by omega) h2 (by omega)

/-- Each block of c is in order, up to n. -/
def Bk (c n : Nat) (xs : List Nat) : Prop := ∀ x, c ∣ x → Srt x (min (x + c) n) xs
/-- Those below A are. -/
structure Bk1 (c A : Nat) (xs : List Nat) : Prop where
  dv : c ∣ A
  lo : ∀ x, c ∣ x → x < A → Srt x (x + c) xs
theorem Bk1.start (c : Nat) (xs : List Nat) : Bk1 c 0 xs := ⟨Nat.dvd_zero _, fun x _ h => by omega⟩
theorem Bk1.next {c A : Nat} {xs ys : List Nat} (h : Bk1 c A xs) (k : InsF A (A + c) (A + c) xs ys) : Bk1 c (A + c) ys := by
  refine ⟨Nat.dvd_add h.dv (Nat.dvd_refl _), fun x hx hl => ?_⟩
  by_cases e : x < A
  · exact (h.lo x hx e).out k.mv (by have := mul_gap hx h.dv e; omega)
  · by_cases e2 : A < x
    · have := mul_gap h.dv hx e2; omega
    · rw [show x = A by omega]; exact k.srt
theorem Bk1.done {c A n : Nat} {xs ys : List Nat} (h : Bk1 c A xs) (hA : n < A + c) (k : InsF A n n xs ys) : Bk c n ys := by
  intro x hx
  by_cases e : x < A
  · exact ((h.lo x hx e).out k.mv (by have := mul_gap hx h.dv e; omega)).sub (Nat.le_refl _) (Nat.min_le_left _ _)
  · by_cases e2 : A < x
    · have := mul_gap h.dv hx e2
      exact Srt.none _ (by omega)
    · rw [show x = A by omega]; exact k.srt.sub (Nat.le_refl _) (Nat.min_le_right _ _)

/-- Below A blocks of 2c, from A on blocks of c. -/
structure Half (c A n : Nat) (xs : List Nat) : Prop where
  dv : 2 * c ∣ A
  lo : ∀ x, 2 * c ∣ x → x < A → Srt x (min (x + 2 * c) n) xs
  hi : ∀ x, c ∣ x → A ≤ x → Srt x (min (x + c) n) xs
theorem dvd_half {c A : Nat} (h : 2 * c ∣ A) : c ∣ A := Nat.dvd_trans ⟨2, by omega⟩ h
theorem Half.start {c n : Nat} {xs : List Nat} (h : Bk c n xs) : Half c 0 n xs := ⟨Nat.dvd_zero _, fun x _ hx => by omega, fun x hx _ => h x hx⟩
theorem Half.one {c A n : Nat} {xs : List Nat} (h : Half c A n xs) (hA : A + c ≤ n) : Srt A (A + c) xs := (h.hi A (dvd_half h.dv) (Nat.le_refl _)).sub (Nat.le_refl _) (by omega)
theorem Half.two {c A n m : Nat} {xs : List Nat} (h : Half c A n xs) (hm : m ≤ n) (hm2 : m ≤ A + c + c) : Srt (A + c) m xs := (h.hi (A + c) (Nat.dvd_add (dvd_half h.dv) (Nat.dvd_refl _)) (by omega)).sub (Nat.le_refl _) (by omega)
theorem Half.next {c A n : Nat} {xs ys : List Nat} (h : Half c A n xs) (k : InsF A (A + 2 * c) (A + 2 * c) xs ys) : Half c (A + 2 * c) n ys := by
  refine ⟨Nat.dvd_add h.dv (Nat.dvd_refl _), fun x hx hl => ?_, fun x hx hl => (h.hi x hx (by omega)).out k.mv (by omega)⟩
  by_cases e : x < A
  · exact (h.lo x hx e).out k.mv (by have := mul_gap hx h.dv e; omega)
  · by_cases e2 : A < x
    · have := mul_gap h.dv hx e2; omega
    · rw [show x = A by omega]; exact k.srt.sub (Nat.le_refl _) (Nat.min_le_left _ _)
theorem Half.merged {c A n : Nat} {xs ys : List Nat} (h : Half c A n xs) (hA : n < A + 2 * c) (k : InsF A n n xs ys) : Bk (2 * c) n ys := by
  intro x hx
  by_cases e : x < A
  · exact (h.lo x hx e).out k.mv (by have := mul_gap hx h.dv e; omega)
  · by_cases e2 : A < x
    · have := mul_gap h.dv hx e2
      exact Srt.none _ (by omega)
    · rw [show x = A by omega]; exact k.srt.sub (Nat.le_refl _) (Nat.min_le_right _ _)
theorem Half.rest {c A n : Nat} {xs : List Nat} (h : Half c A n xs) (hA : n ≤ A + c) : Bk (2 * c) n xs := by
  intro x hx
  by_cases e : x < A
  · exact h.lo x hx e
  · by_cases e2 : A < x
    · have := mul_gap h.dv hx e2
      exact Srt.none _ (by omega)
    · rw [show x = A by omega]; exact (h.hi A (dvd_half h.dv) (Nat.le_refl _)).sub (Nat.le_refl _) (by omega)
theorem Bk.all {c n : Nat} {xs : List Nat} (h : Bk c n xs) (hc : n ≤ c) : Srt 0 n xs := (h 0 (Nat.dvd_zero _)).sub (Nat.le_refl _) (by omega)
end Go.Proofs.Ytlgfhmedenlbcab
