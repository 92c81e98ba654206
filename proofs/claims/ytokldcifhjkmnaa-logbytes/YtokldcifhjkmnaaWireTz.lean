/- Plain facts on what TakeNum reads: it reads just what Num writes. -/
import Derived.Test.YtokldcifhjkmnaaWireTake
namespace Go.Proofs.Ytokldcifhjkmnaa.Wir

theorem pow_step (i : Nat) : 2 ^ (7 * (i + 1)) = 128 * 2 ^ (7 * i) := by
  rw [show 7 * (i + 1) = 7 * i + 7 by omega, Nat.pow_add, Nat.mul_comm]
theorem pow_rest (i : Nat) (h : i ≤ 8) : 2 ^ (64 - 7 * i) = 128 * 2 ^ (64 - 7 * (i + 1)) := by
  rw [show 64 - 7 * i = (64 - 7 * (i + 1)) + 7 by omega, Nat.pow_add, Nat.mul_comm]
theorem join7 (a b P : Nat) : a * P + b * (128 * P) = (a + 128 * b) * P := by
  rw [Nat.add_mul, Nat.mul_comm 128 b, Nat.mul_assoc]

/-- What Num writes is read, whatever stands behind. -/
theorem takeZ_uv : ∀ (f u i acc : Nat) (r : List UInt8), u < f → i ≤ 9 → u < 2 ^ (64 - 7 * i) → (0 < i → 1 ≤ u) →
    takeZ i acc (Lib.uvarint u ++ r) = some (acc + u * 2 ^ (7 * i), i + (Lib.uvarint u).length)
  | 0, _, _, _, _, h, _, _, _ => absurd h (Nat.not_lt_zero _)
  | f + 1, u, i, acc, r, hf, hi, hu, hp => by
    have h9 : i = 9 → u ≤ 1 := by
      intro e
      subst e
      have : u < 2 ^ (64 - 7 * 9) := hu
      omega
    by_cases hs : u < 128
    · rw [Lib.uvarint_small hs]
      simp only [List.cons_append, List.nil_append, takeZ, Lib.toUInt8_toNat (show u < 256 by omega), List.length_singleton]
      rw [if_neg (by omega), if_neg (by omega), if_neg (by omega), if_neg (by omega)]
    · have hi8 : i ≤ 8 := by omega
      rw [Lib.uvarint_big (by omega)]
      simp only [List.cons_append, takeZ, Lib.toUInt8_toNat (show u % 128 + 128 < 256 by omega), List.length_cons]
      rw [if_neg (by omega), if_neg (by omega), if_pos (by omega)]
      rw [takeZ_uv f (u / 128) (i + 1) _ r (by omega) (by omega) (by rw [pow_rest i hi8] at hu; exact Nat.div_lt_of_lt_mul hu) (by omega)]
      rw [pow_step, Nat.add_assoc, join7, show (u % 128 + 128) % 128 + 128 * (u / 128) = u by omega]
      rw [show i + 1 + (Lib.uvarint (u / 128)).length = i + ((Lib.uvarint (u / 128)).length + 1) by omega]

/-- What is read is what Num writes. -/
theorem takeZ_sound : ∀ (l : List UInt8) (i acc z k : Nat), i ≤ 9 → takeZ i acc l = some (z, k) →
    ∃ u, z = acc + u * 2 ^ (7 * i) ∧ i ≤ k ∧ k - i ≤ l.length ∧ l.take (k - i) = Lib.uvarint u ∧ (0 < i → 1 ≤ u) ∧ u < 2 ^ (64 - 7 * i)
  | [], _, _, _, _, _, h => by simp [takeZ] at h
  | b :: r, i, acc, z, k, hi, h => by
    have hb := b.toNat_lt
    simp only [takeZ] at h
    rw [if_neg (by omega)] at h
    by_cases h1 : i = 9 ∧ 1 < b.toNat
    · rw [if_pos h1] at h; cases h
    · rw [if_neg h1] at h
      by_cases h2 : 128 ≤ b.toNat
      · rw [if_pos h2] at h
        have hi8 : i ≤ 8 := by omega
        obtain ⟨u, e1, e2, e3, e4, e5, e6⟩ := takeZ_sound r (i + 1) _ z k (by omega) h
        have hu1 := e5 (by omega)
        refine ⟨b.toNat % 128 + 128 * u, ?_, by omega, by simp; omega, ?_, by omega, ?_⟩
        · rw [e1, pow_step, Nat.add_assoc, join7]
        · rw [show k - i = (k - (i + 1)) + 1 by omega, List.take_succ_cons, e4, Lib.uvarint_big (x := b.toNat % 128 + 128 * u) (by omega)]
          rw [show (b.toNat % 128 + 128 * u) / 128 = u by omega, show (b.toNat % 128 + 128 * u) % 128 + 128 = b.toNat by omega]
          simp [Nat.toUInt8]
        · rw [pow_rest i hi8]; omega
      · rw [if_neg h2] at h
        by_cases h3 : b.toNat = 0 ∧ 0 < i
        · rw [if_pos h3] at h; cases h
        · rw [if_neg h3] at h
          simp only [Option.some.injEq, Prod.mk.injEq] at h
          obtain ⟨rfl, rfl⟩ := h
          refine ⟨b.toNat, rfl, by omega, by simp, ?_, by omega, ?_⟩
          · rw [show i + 1 - i = 1 by omega, Lib.uvarint_small (by omega)]; simp [Nat.toUInt8]
          · by_cases h9 : i = 9
            · subst h9; have : b.toNat ≤ 1 := by omega
              exact Nat.lt_of_le_of_lt this (by decide)
            · exact Nat.lt_of_lt_of_le (show b.toNat < 2 ^ 7 by omega) (Nat.pow_le_pow_right (by decide) (by omega))

theorem take_num (n : Int) (r : List UInt8) (h0 : -9223372036854775808 ≤ n) (h1 : n ≤ 9223372036854775807) : takeZ 0 0 (numB n ++ r) = some (Lib.zigzag n, (numB n).length) := by
  have h := takeZ_uv (Lib.zigzag n + 1) (Lib.zigzag n) 0 0 r (by omega) (by omega) (by have := Lib.zigzag_lt h0 h1; omega) (by omega)
  simpa [numB] using h

theorem take_sound {l : List UInt8} {z k : Nat} (h : takeZ 0 0 l = some (z, k)) : z < 18446744073709551616 ∧ k ≤ l.length ∧ l.take k = numB (Lib.unzigzag z) := by
  obtain ⟨u, e1, _, e3, e4, _, e6⟩ := takeZ_sound l 0 0 z k (by omega) h
  simp at e1 e3 e4 e6
  subst e1
  exact ⟨e6, e3, by rw [e4]; unfold numB; rw [zig_unzig]⟩

theorem unzig_range {z : Nat} (h : z < 18446744073709551616) : -9223372036854775808 ≤ Lib.unzigzag z ∧ Lib.unzigzag z ≤ 9223372036854775807 := by
  unfold Lib.unzigzag; split <;> omega

/-- The number that bytes spell, seven bits each, the least first. -/
def valB : List UInt8 → Nat
  | [] => 0
  | b :: r => b.toNat % 128 + 128 * valB r

theorem valB_uv : ∀ (f z : Nat), z < f → valB (Lib.uvarint z) = z
  | 0, _, h => absurd h (Nat.not_lt_zero _)
  | f + 1, z, hf => by
    by_cases hs : z < 128
    · rw [Lib.uvarint_small hs]; simp only [valB, Lib.toUInt8_toNat (show z < 256 by omega)]; omega
    · rw [Lib.uvarint_big (by omega)]; simp only [valB, Lib.toUInt8_toNat (show z % 128 + 128 < 256 by omega), valB_uv f (z / 128) (by omega)]; omega

theorem uv_shape : ∀ (f z : Nat), z < f → ∃ pre c, Lib.uvarint z = pre ++ [c] ∧ c.toNat < 128 ∧ ∀ b ∈ pre, 128 ≤ b.toNat
  | 0, _, h => absurd h (Nat.not_lt_zero _)
  | f + 1, z, hf => by
    by_cases hs : z < 128
    · exact ⟨[], z.toUInt8, by rw [Lib.uvarint_small hs]; rfl, by rw [Lib.toUInt8_toNat (by omega)]; exact hs, by simp⟩
    · obtain ⟨pre, c, h1, h2, h3⟩ := uv_shape f (z / 128) (by omega)
      refine ⟨(z % 128 + 128).toUInt8 :: pre, c, by rw [Lib.uvarint_big (by omega), h1]; rfl, h2, ?_⟩
      intro b hb
      rcases List.mem_cons.1 hb with rfl | hb
      · rw [Lib.toUInt8_toNat (by omega)]; omega
      · exact h3 b hb

/-- Where a number's bytes end. -/
theorem first_end {l : List UInt8} {z k' k : Nat} (hl : l.take k' = Lib.uvarint z) (hk' : k' ≤ l.length) (hbig : ∀ b ∈ l.take k, 128 ≤ b.toNat) (hk : k ≤ l.length) :
    k < k' ∧ (∀ (h : k < l.length), l[k].toNat < 128 → k' = k + 1) := by
  obtain ⟨pre, c, h1, h2, h3⟩ := uv_shape (z + 1) z (by omega)
  rw [h1] at hl
  have hlen := congrArg List.length hl
  simp at hlen
  have hlen' : k' = pre.length + 1 := by omega
  have hat : ∀ j (hj : j < k'), l[j]'(by omega) = (pre ++ [c])[j]'(by simp; omega) := by
    intro j hj
    have := List.getElem_of_eq hl (i := j) (by simp; omega)
    rw [List.getElem_take] at this
    exact this
  refine ⟨?_, fun h hs => ?_⟩
  · rcases Nat.lt_or_ge k k' with h | h
    · exact h
    · exfalso
      have e := hat pre.length (by omega)
      rw [List.getElem_append_right (by omega)] at e
      simp at e
      have hm : c ∈ l.take k := by
        rw [← e]
        exact List.mem_take_iff_getElem.2 ⟨pre.length, by omega, rfl⟩
      have := hbig c hm
      omega
  · rcases Nat.lt_or_ge k pre.length with hlt | hge
    · exfalso
      have e := hat k (by omega)
      rw [List.getElem_append_left hlt] at e
      have := h3 pre[k] (List.getElem_mem _)
      rw [← e] at this
      omega
    · have : k < k' := by
        rcases Nat.lt_or_ge k k' with h | h
        · exact h
        · exfalso
          have e := hat pre.length (by omega)
          rw [List.getElem_append_right (by omega)] at e
          simp at e
          have hm : c ∈ l.take k := by
            rw [← e]
            exact List.mem_take_iff_getElem.2 ⟨pre.length, by omega, rfl⟩
          have := hbig c hm
          omega
      omega

/-- No end among the first ten bytes: no number. -/
theorem take_none {l : List UInt8} {k : Nat} (hbig : ∀ b ∈ l.take k, 128 ≤ b.toNat) (hk : k ≤ l.length) (he : 10 ≤ k ∨ l.length ≤ k) : takeZ 0 0 l = none := by
  cases h : takeZ 0 0 l with
  | none => rfl
  | some p =>
    obtain ⟨z, k'⟩ := p
    exfalso
    obtain ⟨h1, h2, h3⟩ := take_sound h
    have h4 := (first_end (z := Lib.zigzag (Lib.unzigzag z)) h3 h2 hbig hk).1
    have h5 : (numB (Lib.unzigzag z)).length ≤ 10 := numB_len (unzig_range h1).1 (unzig_range h1).2
    have h6 := congrArg List.length h3
    simp at h6
    omega

/-- The bytes up to the end are those of the number that they spell: it is read. -/
theorem take_yes {l : List UInt8} {k : Nat} {n : Int} (h0 : -9223372036854775808 ≤ n) (h1 : n ≤ 9223372036854775807) (hk : k ≤ l.length) (he : numB n = l.take k) : takeZ 0 0 l = some (Lib.zigzag n, k) := by
  have h := take_num n (l.drop k) h0 h1
  rw [he, List.take_append_drop] at h
  rw [h]
  simp
  omega

/-- Else none is. -/
theorem take_no {l : List UInt8} {k Z : Nat} (hbig : ∀ b ∈ l.take k, 128 ≤ b.toNat) (hk : k < l.length) (hs : l[k].toNat < 128) (hZ : Z = valB (l.take (k + 1)) % 18446744073709551616)
    (hne : numB (Lib.unzigzag Z) ≠ l.take (k + 1)) : takeZ 0 0 l = none := by
  cases h : takeZ 0 0 l with
  | none => rfl
  | some p =>
    obtain ⟨z, k'⟩ := p
    exfalso
    obtain ⟨h1, h2, h3⟩ := take_sound h
    have h4 := (first_end (z := Lib.zigzag (Lib.unzigzag z)) h3 h2 hbig (by omega)).2 hk hs
    subst h4
    have h5 := congrArg valB h3
    rw [show valB (numB (Lib.unzigzag z)) = z by unfold numB; rw [zig_unzig]; exact valB_uv (z + 1) z (by omega)] at h5
    rw [h5, Nat.mod_eq_of_lt h1] at hZ
    subst hZ
    exact hne h3.symm

theorem val_step {l : List UInt8} {k j : Nat} (hj : j < k) (hk : k ≤ l.length) : valB ((l.take k).drop j) = (l[j]'(by omega)).toNat % 128 + 128 * valB ((l.take k).drop (j + 1)) := by
  rw [List.drop_eq_getElem_cons (by simp; omega), valB, List.getElem_take]

theorem big_step {l : List UInt8} {k : Nat} (hbig : ∀ b ∈ l.take k, 128 ≤ b.toNat) (hk : k < l.length) (h : 128 ≤ l[k].toNat) : ∀ b ∈ l.take (k + 1), 128 ≤ b.toNat := by
  intro b hb
  rw [List.take_succ_eq_append_getElem hk, List.mem_append] at hb
  rcases hb with hb | hb
  · exact hbig b hb
  · simp at hb; subst hb; exact h

end Go.Proofs.Ytokldcifhjkmnaa.Wir
