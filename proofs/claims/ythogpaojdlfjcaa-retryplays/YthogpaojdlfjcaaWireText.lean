/- The contracts of wire.Text, wire.takeCount and wire.TakeText. -/
import Derived.Test.YthogpaojdlfjcaaWireTz
import Derived.Test.YthogpaojdlfjcaaWireUse
namespace Go.Proofs.Ythogpaojdlfjcaa.Wir
open Go.RowKit Go.Proofs.Ythogpaojdlfjcaa

theorem ext_size (s : ByteArray) (a b : Nat) : (s.extract a b).size ≤ s.size := by
  rw [ByteArray.size_extract]; omega

theorem mk_size (l : List UInt8) : (⟨l.toArray⟩ : ByteArray).size = l.length := by
  show l.toArray.size = l.length
  exact List.size_toArray

/-- A number from 0 to most at the beginning, and what stands behind it. -/
def takeC (most : Nat) (s : ByteArray) : Option (Nat × ByteArray) := match takeZ 0 0 s.data.toList with
  | none => none
  | some (z, k) => if 0 ≤ Lib.unzigzag z ∧ Lib.unzigzag z ≤ most then some ((Lib.unzigzag z).toNat, s.extract k s.size) else none

/-- A text at the beginning, and what stands behind it. -/
def takeT (s : ByteArray) : Option (ByteArray × ByteArray) := match takeC 4000 s with
  | none => none
  | some (n, r) => if n ≤ r.size then some (r.extract 0 n, r.extract n r.size) else none

theorem takeC_yes {m n : Nat} {s r : ByteArray} (h : takeC m s = some (n, r)) : ∃ z k, takeZ 0 0 s.data.toList = some (z, k) ∧ Lib.unzigzag z = (n : Int) ∧ s.extract k s.size = r ∧ n ≤ m ∧ r.size ≤ s.size := by
  unfold takeC at h
  cases hT : takeZ 0 0 s.data.toList with
  | none => rw [hT] at h; cases h
  | some p =>
    obtain ⟨z, k⟩ := p
    rw [hT] at h
    simp only at h
    split at h
    · rename_i hc
      simp only [Option.some.injEq, Prod.mk.injEq] at h
      obtain ⟨rfl, rfl⟩ := h
      exact ⟨z, k, rfl, by omega, rfl, by omega, ext_size _ _ _⟩
    · cases h

theorem takeC_no {m : Nat} {s : ByteArray} (h : takeC m s = none) : takeZ 0 0 s.data.toList = none ∨ ∃ z k, takeZ 0 0 s.data.toList = some (z, k) ∧ (Lib.unzigzag z < 0 ∨ (m : Int) < Lib.unzigzag z) := by
  unfold takeC at h
  cases hT : takeZ 0 0 s.data.toList with
  | none => exact .inl rfl
  | some p =>
    obtain ⟨z, k⟩ := p
    rw [hT] at h
    simp only at h
    split at h
    · cases h
    · exact .inr ⟨z, k, rfl, by omega⟩

theorem takeT_yes {s t r : ByteArray} (h : takeT s = some (t, r)) : ∃ n q, takeC 4000 s = some (n, q) ∧ n ≤ q.size ∧ q.extract 0 n = t ∧ q.extract n q.size = r := by
  unfold takeT at h
  cases hT : takeC 4000 s with
  | none => rw [hT] at h; cases h
  | some p =>
    obtain ⟨n, q⟩ := p
    rw [hT] at h
    simp only at h
    split at h
    · rename_i hc
      simp only [Option.some.injEq, Prod.mk.injEq] at h
      exact ⟨n, q, rfl, hc, h.1, h.2⟩
    · cases h

theorem takeT_no {s : ByteArray} (h : takeT s = none) : takeC 4000 s = none ∨ ∃ n q, takeC 4000 s = some (n, q) ∧ q.size < n := by
  unfold takeT at h
  cases hT : takeC 4000 s with
  | none => exact .inl rfl
  | some p =>
    obtain ⟨n, q⟩ := p
    rw [hT] at h
    simp only at h
    split at h
    · cases h
    · exact .inr ⟨n, q, rfl, by omega⟩

/-- The bytes of a text. -/
def textB (s : ByteArray) : ByteArray := ⟨(numB s.size).toArray⟩ ++ s

set_option maxRecDepth 100000 in
set_option maxHeartbeats 400000 in
theorem text_yes (s : ByteArray) (w : World) (hs : s.size ≤ 4000) :
    Calls Try.prog 26 #[.string s] w fun e w' => e = .returned (.tuple #[.string (textB s), .int .i64 0]) ∧ Below w.heap.size w w' := by
  have hl := numB_len (n := (s.size : Int)) (by omega) (by omega)
  have ha := fun (w : World) => run_string_add_sum (P := Try.prog) w ⟨(numB s.size).toArray⟩ s (by rw [mk_size]; omega)
  go_enter Try.func26, Try.ntmps26
  go_wp2_with fail
  refine (num_any (s.size : Int) _ (by omega) (by omega)).mono ?_
  rintro e w1 ⟨rfl, b1⟩
  go_wp2
  go_ret2
  exact ⟨rfl, b1⟩

set_option maxHeartbeats 400000 in
theorem text_no (s : ByteArray) (w : World) (hs : 4000 < s.size) :
    Calls Try.prog 26 #[.string s] w fun e w' => e = .returned (.tuple #[.string ⟨#[]⟩, .int .i64 4]) ∧ Below w.heap.size w w' := by
  go_enter Try.func26, Try.ntmps26
  go_wp2
  go_ret2
  exact ⟨rfl, Below.refl _ _⟩

end Go.Proofs.Ythogpaojdlfjcaa.Wir
