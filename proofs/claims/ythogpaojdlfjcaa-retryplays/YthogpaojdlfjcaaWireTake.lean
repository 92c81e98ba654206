/- The contract of wire.TakeNum. -/
import Derived.Test.YthogpaojdlfjcaaWireNum
import Derived.Deep.QuietTactic
import Derived.BigQuiet
namespace Go.Proofs.Ythogpaojdlfjcaa.Wir
open Go.RowKit Go.Proofs.Ythogpaojdlfjcaa

/-- What TakeNum reads from the i-th byte on: the number (folded), and how many bytes in all. -/
def takeZ : Nat → Nat → List UInt8 → Option (Nat × Nat)
  | _, _, [] => none
  | i, acc, b :: r =>
    if 9 < i then none
    else if i = 9 ∧ 1 < b.toNat then none
    else if 128 ≤ b.toNat then takeZ (i + 1) (acc + b.toNat % 128 * 2 ^ (7 * i)) r
    else if b.toNat = 0 ∧ 0 < i then none
    else some (acc + b.toNat * 2 ^ (7 * i), i + 1)

/-- What TakeNum answers. -/
def takeNumV (s : ByteArray) : Value := match takeZ 0 0 s.data.toList with
  | none => .tuple #[.int .i64 0, .string ⟨#[]⟩, .int .i64 2]
  | some (z, k) => .tuple #[.int .i64 (Lib.unzigzag z), .string (s.extract k s.size), .int .i64 0]
theorem takeNumV_no {s : ByteArray} (h : takeZ 0 0 s.data.toList = none) : takeNumV s = .tuple #[.int .i64 0, .string ⟨#[]⟩, .int .i64 2] := by unfold takeNumV; rw [h]
theorem takeNumV_yes {s : ByteArray} {z k : Nat} (h : takeZ 0 0 s.data.toList = some (z, k)) : takeNumV s = .tuple #[.int .i64 (Lib.unzigzag z), .string (s.extract k s.size), .int .i64 0] := by unfold takeNumV; rw [h]

theorem and128_nat : ∀ a : Fin 256, (a.val &&& 128) = if 128 ≤ a.val then 128 else 0 := by decide +kernel
theorem andNot128 : ∀ a : Fin 256, bits .andNot .u8 (a.val : Int) 128 = ((a.val % 128 : Nat) : Int) := by decide +kernel
theorem and128 : ∀ a : Fin 256, bits .and .u8 (a.val : Int) 128 = if 128 ≤ a.val then 128 else 0 := by decide +kernel

theorem andNot128_byte (c : UInt8) : bits .andNot .u8 (c.toNat : Int) 128 = ((c.toNat % 128 : Nat) : Int) := andNot128 ⟨c.toNat, c.toNat_lt⟩
theorem and128_byte (c : UInt8) : bits .and .u8 (c.toNat : Int) 128 = if 128 ≤ c.toNat then 128 else 0 := and128 ⟨c.toNat, c.toNat_lt⟩

theorem or_join (k acc c : Nat) (hk : k < 10) (hacc : acc < 2 ^ (7 * k)) (hc : c < 128) (h9 : k = 9 → c ≤ 1) :
    bits .or .u64 (acc : Int) (IntKind.u64.wrap ((c : Int) * 2 ^ (7 * k))) = ((acc + c * 2 ^ (7 * k) : Nat) : Int) ∧ acc + c * 2 ^ (7 * k) < 2 ^ (7 * (k + 1)) ∧ acc + c * 2 ^ (7 * k) < 18446744073709551616 := by
  have hs : k = 0 ∨ k = 1 ∨ k = 2 ∨ k = 3 ∨ k = 4 ∨ k = 5 ∨ k = 6 ∨ k = 7 ∨ k = 8 ∨ k = 9 := by omega
  rcases hs with rfl | rfl | rfl | rfl | rfl | rfl | rfl | rfl | rfl | rfl
  · have e : (2 : Nat) ^ (7 * 0) = 1 := by decide
    have e' : (2 : Nat) ^ (7 * (0 + 1)) = 128 := by decide
    have e2 : (2 : Int) ^ (7 * 0) = 1 := by decide
    rw [e] at hacc
    refine ⟨?_, by rw [e, e']; omega, by rw [e]; omega⟩
    rw [e, e2, IntKind.wrap_u64, Int.emod_eq_of_lt (by omega) (by omega), u64_orv0 _ _ (by omega) (by omega) (by omega) (by omega) (by omega)]
    omega
  · have e : (2 : Nat) ^ (7 * 1) = 128 := by decide
    have e' : (2 : Nat) ^ (7 * (1 + 1)) = 16384 := by decide
    have e2 : (2 : Int) ^ (7 * 1) = 128 := by decide
    rw [e] at hacc
    refine ⟨?_, by rw [e, e']; omega, by rw [e]; omega⟩
    rw [e, e2, IntKind.wrap_u64, Int.emod_eq_of_lt (by omega) (by omega), u64_orv7 _ _ (by omega) (by omega) (by omega) (by omega) (by omega)]
    omega
  · have e : (2 : Nat) ^ (7 * 2) = 16384 := by decide
    have e' : (2 : Nat) ^ (7 * (2 + 1)) = 2097152 := by decide
    have e2 : (2 : Int) ^ (7 * 2) = 16384 := by decide
    rw [e] at hacc
    refine ⟨?_, by rw [e, e']; omega, by rw [e]; omega⟩
    rw [e, e2, IntKind.wrap_u64, Int.emod_eq_of_lt (by omega) (by omega), u64_orv14 _ _ (by omega) (by omega) (by omega) (by omega) (by omega)]
    omega
  · have e : (2 : Nat) ^ (7 * 3) = 2097152 := by decide
    have e' : (2 : Nat) ^ (7 * (3 + 1)) = 268435456 := by decide
    have e2 : (2 : Int) ^ (7 * 3) = 2097152 := by decide
    rw [e] at hacc
    refine ⟨?_, by rw [e, e']; omega, by rw [e]; omega⟩
    rw [e, e2, IntKind.wrap_u64, Int.emod_eq_of_lt (by omega) (by omega), u64_orv21 _ _ (by omega) (by omega) (by omega) (by omega) (by omega)]
    omega
  · have e : (2 : Nat) ^ (7 * 4) = 268435456 := by decide
    have e' : (2 : Nat) ^ (7 * (4 + 1)) = 34359738368 := by decide
    have e2 : (2 : Int) ^ (7 * 4) = 268435456 := by decide
    rw [e] at hacc
    refine ⟨?_, by rw [e, e']; omega, by rw [e]; omega⟩
    rw [e, e2, IntKind.wrap_u64, Int.emod_eq_of_lt (by omega) (by omega), u64_orv28 _ _ (by omega) (by omega) (by omega) (by omega) (by omega)]
    omega
  · have e : (2 : Nat) ^ (7 * 5) = 34359738368 := by decide
    have e' : (2 : Nat) ^ (7 * (5 + 1)) = 4398046511104 := by decide
    have e2 : (2 : Int) ^ (7 * 5) = 34359738368 := by decide
    rw [e] at hacc
    refine ⟨?_, by rw [e, e']; omega, by rw [e]; omega⟩
    rw [e, e2, IntKind.wrap_u64, Int.emod_eq_of_lt (by omega) (by omega), u64_orv35 _ _ (by omega) (by omega) (by omega) (by omega) (by omega)]
    omega
  · have e : (2 : Nat) ^ (7 * 6) = 4398046511104 := by decide
    have e' : (2 : Nat) ^ (7 * (6 + 1)) = 562949953421312 := by decide
    have e2 : (2 : Int) ^ (7 * 6) = 4398046511104 := by decide
    rw [e] at hacc
    refine ⟨?_, by rw [e, e']; omega, by rw [e]; omega⟩
    rw [e, e2, IntKind.wrap_u64, Int.emod_eq_of_lt (by omega) (by omega), u64_orv42 _ _ (by omega) (by omega) (by omega) (by omega) (by omega)]
    omega
  · have e : (2 : Nat) ^ (7 * 7) = 562949953421312 := by decide
    have e' : (2 : Nat) ^ (7 * (7 + 1)) = 72057594037927936 := by decide
    have e2 : (2 : Int) ^ (7 * 7) = 562949953421312 := by decide
    rw [e] at hacc
    refine ⟨?_, by rw [e, e']; omega, by rw [e]; omega⟩
    rw [e, e2, IntKind.wrap_u64, Int.emod_eq_of_lt (by omega) (by omega), u64_orv49 _ _ (by omega) (by omega) (by omega) (by omega) (by omega)]
    omega
  · have e : (2 : Nat) ^ (7 * 8) = 72057594037927936 := by decide
    have e' : (2 : Nat) ^ (7 * (8 + 1)) = 9223372036854775808 := by decide
    have e2 : (2 : Int) ^ (7 * 8) = 72057594037927936 := by decide
    rw [e] at hacc
    refine ⟨?_, by rw [e, e']; omega, by rw [e]; omega⟩
    rw [e, e2, IntKind.wrap_u64, Int.emod_eq_of_lt (by omega) (by omega), u64_orv56 _ _ (by omega) (by omega) (by omega) (by omega) (by omega)]
    omega
  · have e : (2 : Nat) ^ (7 * 9) = 9223372036854775808 := by decide
    have e' : (2 : Nat) ^ (7 * (9 + 1)) = 1180591620717411303424 := by decide
    have e2 : (2 : Int) ^ (7 * 9) = 9223372036854775808 := by decide
    rw [e] at hacc
    refine ⟨?_, by rw [e, e']; omega, by rw [e]; omega⟩
    rw [e, e2, IntKind.wrap_u64, Int.emod_eq_of_lt (by omega) (by omega), u64_orv63 _ _ (by omega) (by omega) (by omega) (by omega) (by omega)]
    omega

theorem drop_at (s : ByteArray) (k : Nat) (h : k < s.size) : s.data.toList.drop k = s[k] :: s.data.toList.drop (k + 1) := by
  rw [List.drop_eq_getElem_cons (by simpa using h)]; rfl
theorem drop_all (s : ByteArray) (k : Nat) (h : s.size ≤ k) : s.data.toList.drop k = [] := List.drop_eq_nil_of_le (by simpa using h)

end Go.Proofs.Ythogpaojdlfjcaa.Wir
