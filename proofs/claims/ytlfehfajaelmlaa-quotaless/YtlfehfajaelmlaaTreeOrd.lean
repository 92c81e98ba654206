/- The order of paths, and lists of nodes in that order. No program in it. -/
import Derived.Test.YtlfehfajaelmlaaTreeE
import Derived.Lib.Bytealg
namespace Go.Proofs.Ytlfehfajaelmlaa
open Go.RowKit

theorem bl_irrefl : ∀ l : List UInt8, Op.bytesLess l l = false
  | [] => rfl
  | a :: l => by
    simp only [Op.bytesLess, bl_irrefl l, Bool.and_false, Bool.or_false, decide_eq_false_iff_not]
    exact UInt8.lt_irrefl a
theorem bl_cons (a b : UInt8) (l m : List UInt8) : Op.bytesLess (a :: l) (b :: m) = true ↔ a.toNat < b.toNat ∨ (a = b ∧ Op.bytesLess l m = true) := by
  simp only [Op.bytesLess, Bool.or_eq_true, decide_eq_true_eq, Bool.and_eq_true, beq_iff_eq, UInt8.lt_iff_toNat_lt]
theorem bl_trans : ∀ a b c : List UInt8, Op.bytesLess a b = true → Op.bytesLess b c = true → Op.bytesLess a c = true
  | _, [], _, h, _ => by simp [Op.bytesLess] at h
  | _, _ :: _, [], _, h => by simp [Op.bytesLess] at h
  | [], _ :: _, _ :: _, _, _ => by simp [Op.bytesLess]
  | a :: l, b :: m, c :: n, h, k => by
    rw [bl_cons] at *
    rcases h with h | ⟨rfl, h⟩
    · rcases k with k | ⟨rfl, k⟩
      · left; omega
      · left; exact h
    · rcases k with k | ⟨rfl, k⟩
      · left; exact k
      · right; exact ⟨rfl, bl_trans l m n h k⟩
theorem bl_tri : ∀ a b : List UInt8, Op.bytesLess a b = false → Op.bytesLess b a = false → a = b
  | [], [], _, _ => rfl
  | [], _ :: _, h, _ => by simp [Op.bytesLess] at h
  | _ :: _, [], _, h => by simp [Op.bytesLess] at h
  | a :: l, b :: m, h, k => by
    rw [Bool.eq_false_iff, ne_eq, bl_cons] at h k
    have hab : a = b := by
      apply UInt8.toNat_inj.1
      have h1 : ¬ a.toNat < b.toNat := fun e => h (.inl e)
      have h2 : ¬ b.toNat < a.toNat := fun e => k (.inl e)
      omega
    subst hab
    rw [bl_tri l m (by rw [Bool.eq_false_iff]; exact fun e => h (.inr ⟨rfl, e⟩)) (by rw [Bool.eq_false_iff]; exact fun e => k (.inr ⟨rfl, e⟩))]

theorem ltB_irrefl (a : ByteArray) : ltB a a = false := bl_irrefl _
theorem ltB_trans {a b c : ByteArray} (h : ltB a b = true) (k : ltB b c = true) : ltB a c = true := bl_trans _ _ _ h k
theorem ltB_asymm {a b : ByteArray} (h : ltB a b = true) : ltB b a = false := by
  rw [Bool.eq_false_iff]; intro k
  have := ltB_trans h k
  rw [ltB_irrefl] at this; cases this
theorem ltB_tri {a b : ByteArray} (h : ltB a b = false) (k : ltB b a = false) : a = b := by
  have := bl_tri _ _ h k
  rw [Lib.toList_data, Lib.toList_data] at this
  exact ba_inj this
theorem ltB_ne {a b : ByteArray} (h : ltB a b = true) : a ≠ b := by
  intro e; subst e; rw [ltB_irrefl] at h; cases h
theorem ltB_ntrans {a b c : ByteArray} (h : ltB a b = false) (k : ltB b c = false) : ltB a c = false := by
  rw [Bool.eq_false_iff]; intro e
  cases h2 : ltB b a with
  | true =>
    have := ltB_trans h2 e
    rw [k] at this; cases this
  | false =>
    rw [ltB_tri h h2, k] at e
    cases e

theorem cmp_lt : ∀ l m : List UInt8, decide (Lib.compareBytes l m < 0) = Op.bytesLess l m
  | [], [] => rfl
  | [], _ :: _ => rfl
  | _ :: _, [] => rfl
  | a :: l, b :: m => by
    unfold Lib.compareBytes
    by_cases h1 : a < b
    · rw [if_pos h1]
      have : Op.bytesLess (a :: l) (b :: m) = true := (bl_cons ..).2 (.inl (UInt8.lt_iff_toNat_lt.1 h1))
      rw [this]; rfl
    · rw [if_neg h1]
      rw [UInt8.lt_iff_toNat_lt] at h1
      by_cases h2 : b < a
      · rw [if_pos h2]
        have : Op.bytesLess (a :: l) (b :: m) = false := by
          rw [Bool.eq_false_iff, ne_eq, bl_cons]
          rw [UInt8.lt_iff_toNat_lt] at h2
          rintro (e | ⟨rfl, _⟩) <;> omega
        rw [this]; rfl
      · rw [if_neg h2, cmp_lt l m]
        have hab : a = b := by
          apply UInt8.toNat_inj.1
          rw [UInt8.lt_iff_toNat_lt] at h2
          omega
        subst hab
        cases h3 : Op.bytesLess l m with
        | true => exact ((bl_cons ..).2 (.inr ⟨rfl, h3⟩)).symm
        | false =>
          symm
          rw [Bool.eq_false_iff, ne_eq, bl_cons]
          rintro (e | ⟨_, e⟩)
          · omega
          · rw [h3] at e; cases e

/-- Rising by their paths. -/
def Asc (l : NS) : Prop := l.Pairwise (fun x y => ltB x.path y.path = true)

theorem asc_unique : ∀ {l m : NS}, l.Perm m → Asc l → Asc m → l = m
  | [], m, h, _, _ => (List.nil_perm.1 h).symm
  | x :: l, [], h, _, _ => absurd h (by simp)
  | x :: l, y :: m, h, hl, hm => by
    obtain ⟨h1, h2⟩ := List.pairwise_cons.1 hl
    obtain ⟨k1, k2⟩ := List.pairwise_cons.1 hm
    have hx : x ∈ y :: m := h.subset (by simp)
    have hy : y ∈ x :: l := h.symm.subset (by simp)
    have e : x = y := by
      rcases List.mem_cons.1 hx with e | hx
      · exact e
      · rcases List.mem_cons.1 hy with e | hy
        · exact e.symm
        · have a1 := k1 x hx
          have a2 := h1 y hy
          rw [ltB_asymm a1] at a2; cases a2
    subst e
    rw [asc_unique (List.Perm.cons_inv h) h2 k2]

def sortN (l : NS) : NS := l.mergeSort (fun x y => !ltB y.path x.path)
theorem sortN_perm (l : NS) : (sortN l).Perm l := List.mergeSort_perm _ _
theorem sortN_len (l : NS) : (sortN l).length = l.length := (sortN_perm l).length_eq
theorem sortN_mem {l : NS} {x : Nd} : x ∈ sortN l ↔ x ∈ l := (sortN_perm l).mem_iff

/-- No two have the same path. -/
def Apart (l : NS) : Prop := l.Pairwise (fun x y => x.path ≠ y.path)

theorem Asc.apart {l : NS} (h : Asc l) : Apart l := List.Pairwise.imp (fun e => ltB_ne e) h
theorem Apart.perm {l m : NS} (h : Apart l) (p : l.Perm m) : Apart m := (p.pairwise_iff (fun {_ _} e => e.symm)).1 h

theorem asc_of {l : NS} (h : l.Pairwise (fun x y => ltB y.path x.path = false)) (ha : Apart l) : Asc l := by
  have := List.Pairwise.and h ha
  refine List.Pairwise.imp (fun {x y} e => ?_) this
  cases e2 : ltB x.path y.path with
  | true => rfl
  | false => exact absurd (ltB_tri e2 e.1) e.2

theorem sortN_asc {l : NS} (ha : Apart l) : Asc (sortN l) := by
  refine asc_of ?_ (ha.perm (sortN_perm l).symm)
  have := List.pairwise_mergeSort (le := fun x y : Nd => !ltB y.path x.path) (fun a b c h1 h2 => by
    simp only [Bool.not_eq_true'] at *
    exact ltB_ntrans h2 h1) (fun a b => by
    cases h : ltB a.path b.path with
    | true => rw [ltB_asymm h]; rfl
    | false => simp) l
  exact List.Pairwise.imp (fun e => by simpa using e) this

theorem sortN_is {l m : NS} (hp : m.Perm l) (ha : Asc m) : m = sortN l :=
  asc_unique (hp.trans (sortN_perm l).symm) ha (sortN_asc (ha.apart.perm hp))

theorem right_asc {xs : NS} (h : Right xs) : Asc xs := by
  unfold Asc
  rw [List.pairwise_iff_getElem]
  intro i j hi hj hij
  obtain ⟨d, rfl⟩ : ∃ d, j = i + 1 + d := ⟨j - i - 1, by omega⟩
  clear hij
  induction d with
  | zero => exact h.asc i hj
  | succ d ih => exact ltB_trans (ih (by omega)) (h.asc (i + 1 + d) hj)

end Go.Proofs.Ytlfehfajaelmlaa
