/- The contract of wire.TakeNum. -/
import Derived.Test.YtokldcifhjkmnaaWireNum
import Derived.Deep.QuietTactic
import Derived.BigQuiet
namespace Go.Proofs.Ytokldcifhjkmnaa.Wir
open Go.RowKit Go.Proofs.Ytokldcifhjkmnaa

/-- What TakeNum reads from the i-th byte on: the number (folded), and how many bytes in all. -/
def takeZ : Nat → Nat → List UInt8 → Option (Nat × Nat)
  | _, _, [] => none
  | i, acc, b :: r =>
    if 9 < i then none
    else if i = 9 ∧ 1 < b.toNat then none
    else if 128 ≤ b.toNat then takeZ (i + 1) (acc + b.toNat % 128 * 2 ^ (7 * i)) r
    else if b.toNat = 0 ∧ 0 < i then none
    else some (acc + b.toNat * 2 ^ (7 * i), i + 1)

/-- What TakeNum answers. -/
def takeNumV (s : ByteArray) : Value := match takeZ 0 0 s.data.toList with
  | none => .tuple #[.int .i64 0, .string ⟨#[]⟩, .int .i64 2]
  | some (z, k) => .tuple #[.int .i64 (Lib.unzigzag z), .string (s.extract k s.size), .int .i64 0]
theorem takeNumV_no {s : ByteArray} (h : takeZ 0 0 s.data.toList = none) : takeNumV s = .tuple #[.int .i64 0, .string ⟨#[]⟩, .int .i64 2] := by unfold takeNumV; rw [h]
theorem takeNumV_yes {s : ByteArray} {z k : Nat} (h : takeZ 0 0 s.data.toList = some (z, k)) : takeNumV s = .tuple #[.int .i64 (Lib.unzigzag z), .string (s.extract k s.size), .int .i64 0] := by unfold takeNumV; rw [h]

theorem and128_nat : ∀ a : Fin 256, (a.val &&& 128) = if 128 ≤ a.val then 128 else 0 := by decide +kernel
theorem andNot128 : ∀ a : Fin 256, bits .andNot .u8 (a.val : Int) 128 = ((a.val % 128 : Nat) : Int) := by decide +kernel
theorem and128 : ∀ a : Fin 256, bits .and .u8 (a.val : Int) 128 = if 128 ≤ a.val then 128 else 0 := by decide +kernel

theorem andNot128_byte (c : UInt8) : bits .andNot .u8 (c.toNat : Int) 128 = ((c.toNat % 128 : Nat) : Int) := andNot128 ⟨c.toNat, c.toNat_lt⟩
theorem and128_byte (c : UInt8) : bits .and .u8 (c.toNat : Int) 128 = if 128 ≤ c.toNat then 128 else 0 := and128 ⟨c.toNat, c.toNat_lt⟩

theorem or_join (k acc c : Nat) (hk : k < 10) (hacc : acc < 2 ^ (7 * k)) (hc : c < 128) (h9 : k = 9 → c ≤ 1) :
    bits .or .u64 (acc : Int) (IntKind.u64.wrap ((c : Int) * 2 ^ (7 * k))) = ((acc + c * 2 ^ (7 * k) : Nat) : Int) ∧ acc + c * 2 ^ (7 * k) < 2 ^ (7 * (k + 1)) ∧ acc + c * 2 ^ (7 * k) < 18446744073709551616 := by
  have hs : k = 0 ∨ k = 1 ∨ k = 2 ∨ k = 3 ∨ k = 4 ∨ k = 5 ∨ k = 6 ∨ k = 7 ∨ k = 8 ∨ k = 9 := by omega
  rcases hs with rfl | rfl | rfl | rfl | rfl | rfl | rfl | rfl | rfl | rfl
  · have e : (2 : Nat) ^ (7 * 0) = 1 := by decide
    have e' : (2 : Nat) ^ (7 * (0 + 1)) = 128 := by decide
    have e2 : (2 : Int) ^ (7 * 0) = 1 := by decide
    rw [e] at hacc
    refine ⟨?_, by rw [e, e']; omega, by rw [e]; omega⟩
    rw [e, e2, IntKind.wrap_u64, Int.emod_eq_of_lt (by omega) (by omega), u64_orv0 _ _ (by omega) (by omega) (by omega) (by omega) (by omega)]
    omega
  · have e : (2 : Nat) ^ (7 * 1) = 128 := by decide
    have e' : (2 : Nat) ^ (7 * (1 + 1)) = 16384 := by decide
    have e2 : (2 : Int) ^ (7 * 1) = 128 := by decide
    rw [e] at hacc
    refine ⟨?_, by rw [e, e']; omega, by rw [e]; omega⟩
    rw [e, e2, IntKind.wrap_u64, Int.emod_eq_of_lt (by omega) (by omega), u64_orv7 _ _ (by omega) (by omega) (by omega) (by omega) (by omega)]
    omega
  · have e : (2 : Nat) ^ (7 * 2) = 16384 := by decide
    have e' : (2 : Nat) ^ (7 * (2 + 1)) = 2097152 := by decide
    have e2 : (2 : Int) ^ (7 * 2) = 16384 := by decide
    rw [e] at hacc
    refine ⟨?_, by rw [e, e']; omega, by rw [e]; omega⟩
    rw [e, e2, IntKind.wrap_u64, Int.emod_eq_of_lt (by omega) (by omega), u64_orv14 _ _ (by omega) (by omega) (by omega) (by omega) (by omega)]
    omega
  · have e : (2 : Nat) ^ (7 * 3) = 2097152 := by decide
    have e' : (2 : Nat) ^ (7 * (3 + 1)) = 268435456 := by decide
    have e2 : (2 : Int) ^ (7 * 3) = 2097152 := by decide
    rw [e] at hacc
    refine ⟨?_, by rw [e, e']; omega, by rw [e]; omega⟩
    rw [e, e2, IntKind.wrap_u64, Int.emod_eq_of_lt (by omega) (by omega), u64_orv21 _ _ (by omega) (by omega) (by omega) (by omega) (by omega)]
    omega
  · have e : (2 : Nat) ^ (7 * 4) = 268435456 := by decide
    have e' : (2 : Nat) ^ (7 * (4 + 1)) = 34359738368 := by decide
    have e2 : (2 : Int) ^ (7 * 4) = 268435456 := by decide
    rw [e] at hacc
    refine ⟨?_, by rw [e, e']; omega, by rw [e]; omega⟩
    rw [e, e2, IntKind.wrap_u64, Int.emod_eq_of_lt (by omega) (by omega), u64_orv28 _ _ (by omega) (by omega) (by omega) (by omega) (by omega)]
    omega
  · have e : (2 : Nat) ^ (7 * 5) = 34359738368 := by decide
    have e' : (2 : Nat) ^ (7 * (5 + 1)) = 4398046511104 := by decide
    have e2 : (2 : Int) ^ (7 * 5) = 34359738368 := by decide
    rw [e] at hacc
    refine ⟨?_, by rw [e, e']; omega, by rw [e]; omega⟩
    rw [e, e2, IntKind.wrap_u64, Int.emod_eq_of_lt (by omega) (by omega), u64_orv35 _ _ (by omega) (by omega) (by omega) (by omega) (by omega)]
    omega
  · have e : (2 : Nat) ^ (7 * 6) = 4398046511104 := by decide
    have e' : (2 : Nat) ^ (7 * (6 + 1)) = 562949953421312 := by decide
    have e2 : (2 : Int) ^ (7 * 6) = 4398046511104 := by decide
    rw [e] at hacc
    refine ⟨?_, by rw [e, e']; omega, by rw [e]; omega⟩
    rw [e, e2, IntKind.wrap_u64, Int.emod_eq_of_lt (by omega) (by omega), u64_orv42 _ _ (by omega) (by omega) (by omega) (by omega) (by omega)]
    omega
  · have e : (2 : Nat) ^ (7 * 7) = 562949953421312 := by decide
    have e' : (2 : Nat) ^ (7 * (7 + 1)) = 72057594037927936 := by decide
    have e2 : (2 : Int) ^ (7 * 7) = 562949953421312 := by decide
    rw [e] at hacc
    refine ⟨?_, by rw [e, e']; omega, by rw [e]; omega⟩
    rw [e, e2, IntKind.wrap_u64, Int.emod_eq_of_lt (by omega) (by omega), u64_orv49 _ _ (by omega) (by omega) (by omega) (by omega) (by omega)]
    omega
  · have e : (2 : Nat) ^ (7 * 8) = 72057594037927936 := by decide
    have e' : (2 : Nat) ^ (7 * (8 + 1)) = 9223372036854775808 := by decide
    have e2 : (2 : Int) ^ (7 * 8) = 72057594037927936 := by decide
    rw [e] at hacc
    refine ⟨?_, by rw [e, e']; omega, by rw [e]; omega⟩
    rw [e, e2, IntKind.wrap_u64, Int.emod_eq_of_lt (by omega) (by omega), u64_orv56 _ _ (by omega) (by omega) (by omega) (by omega) (by omega)]
    omega
  · have e : (2 : Nat) ^ (7 * 9) = 9223372036854775808 := by decide
    have e' : (2 : Nat) ^ (7 * (9 + 1)) = 1180591620717411303424 := by decide
    have e2 : (2 : Int) ^ (7 * 9) = 9223372036854775808 := by decide
    rw [e] at hacc
    refine ⟨?_, by rw [e, e']; omega, by rw [e]; omega⟩
    rw [e, e2, IntKind.wrap_u64, Int.emod_eq_of_lt (by omega) (by omega), u64_orv63 _ _ (by omega) (by omega) (by omega) (by omega) (by omega)]
    omega

theorem drop_at (s : ByteArray) (k : Nat) (h : k < s.size) : s.data.toList.drop k = s[k] :: s.data.toList.drop (k + 1) := by
  rw [List.drop_eq_getElem_cons (by simpa using h)]; rfl
theorem drop_all (s : ByteArray) (k : Nat) (h : s.size ≤ k) : s.data.toList.drop k = [] := List.drop_eq_nil_of_le (by simpa using h)

set_option maxRecDepth 100000 in
set_option maxHeartbeats 1000000 in
theorem takeNum_any (s : ByteArray) (w : World) (hs : s.size ≤ maxLen) :
    Calls Try.prog 77 #[.string s] w fun e w' => e = .returned (takeNumV s) ∧ ∃ n, w' = w.drewN n := by
  unfold maxLen at hs
  go_enter Try.func77, Try.ntmps77
  go_wp2
  go_loop [5, 6] (fun z i => ∃ (k acc : Nat), k ≤ s.size ∧ k ≤ 10 ∧ acc < 2 ^ (7 * k) ∧ i = .int .i64 k ∧ z = .int .u64 acc ∧ takeZ 0 0 s.data.toList = takeZ k acc (s.data.toList.drop k)) (fun _ i => s.size - (intOf i).toNat)
  case atStart => exact ⟨0, 0, by omega, by omega, by omega, rfl, rfl, rfl⟩
  case round =>
    obtain ⟨k, acc, hk, hk10, hacc, rfl, rfl, hE⟩ := hrel
    have E : Hid (takeZ 0 0 s.data.toList = takeZ k acc (s.data.toList.drop k)) := hE
    have HA : Hid (acc < 2 ^ (7 * k)) := hacc
    clear hE hacc
    by_cases hlt : k < s.size ∧ k < 10
    · obtain ⟨hlt, hlt10⟩ := hlt
      have ha1 := andNot128_byte s[k]
      have ha2 := and128_byte s[k]
      by_cases h1 : k = 9 ∧ 1 < s[k].toNat
      · obtain ⟨h1a, h1b⟩ := h1
        have h9 : ((k : Int) == 9) = true := by simp; omega
        have hc1 : (1 : Int) < (s[k].toNat : Int) := by omega
        have E2 : Hid (takeNumV s = .tuple #[.int .i64 0, .string ⟨#[]⟩, .int .i64 2]) := by
          refine takeNumV_no ?_
          rw [E.out, drop_at s k hlt, takeZ, if_neg (by omega), if_pos ⟨h1a, h1b⟩]
        clear ha1 ha2 E HA h1a h1b
        go_wp2
        go_ret3
        exact ⟨congrArg Ending.returned E2.out.symm, 0, rfl⟩
      · by_cases h2 : 128 ≤ s[k].toNat
        · have h9 : k < 9 := by omega
          have h2' : (128 : Int) ≤ (s[k].toNat : Int) := by omega
          have ha3 : (bits .and .u8 (s[k].toNat : Int) 128 != 0) = true := by rw [ha2, if_pos h2]; rfl
          obtain ⟨j1, j2, j3⟩ := or_join k acc (s[k].toNat % 128) hlt10 HA.out (by omega) (by omega)
          have J1 : Hid (bits .or .u64 (acc : Int) (IntKind.u64.wrap (((s[k].toNat % 128 : Nat) : Int) * 2 ^ (7 * k))) = ((acc + s[k].toNat % 128 * 2 ^ (7 * k) : Nat) : Int)) := j1
          have J2 : Hid (acc + s[k].toNat % 128 * 2 ^ (7 * k) < 2 ^ (7 * (k + 1))) := j2
          have E2 : Hid (takeZ 0 0 s.data.toList = takeZ (k + 1) (acc + s[k].toNat % 128 * 2 ^ (7 * k)) (s.data.toList.drop (k + 1))) := by
            show (_ : Option (Nat × Nat)) = _
            rw [E.out, drop_at s k hlt, takeZ, if_neg (by omega), if_neg h1, if_pos h2]
          clear ha2 h1 h2 j1 j2 j3 E HA
          go_wp2
          go_round
          case rel => exact ⟨k + 1, _, by omega, by omega, J2.out, by go_num, congrArg (Value.int .u64) J1.out, E2.out⟩
          case measure => simp [intOf]; omega
        · have h2' : (s[k].toNat : Int) < 128 := by omega
          have ha3 : (bits .and .u8 (s[k].toNat : Int) 128 != 0) = false := by rw [ha2, if_neg h2]; rfl
          have ha4 : s[k].toNat % 128 = s[k].toNat := by omega
          rw [ha4] at ha1
          by_cases h3 : s[k].toNat = 0 ∧ 0 < k
          · obtain ⟨h3a, h3b⟩ := h3
            have h4 : ((s[k].toNat : Int) == 0) = true := by simpa using h3a
            have E2 : Hid (takeNumV s = .tuple #[.int .i64 0, .string ⟨#[]⟩, .int .i64 2]) := by
              refine takeNumV_no ?_
              rw [E.out, drop_at s k hlt, takeZ, if_neg (by omega), if_neg h1, if_neg h2, if_pos ⟨h3a, h3b⟩]
            clear ha2 h1 h2 E HA ha4 h3a
            go_wp2
            all_goals go_ret3
            all_goals exact ⟨congrArg Ending.returned E2.out.symm, 0, rfl⟩
          · obtain ⟨j1, j2, j3⟩ := or_join k acc s[k].toNat hlt10 HA.out (by omega) (by omega)
            have e2 : takeNumV s = .tuple #[.int .i64 (Lib.unzigzag (acc + s[k].toNat * 2 ^ (7 * k))), .string (s.extract (k + 1) s.size), .int .i64 0] := by
              refine takeNumV_yes ?_
              rw [E.out, drop_at s k hlt, takeZ, if_neg (by omega), if_neg h1, if_neg h2, if_neg h3]
            obtain ⟨Z, hZ⟩ : ∃ Z, acc + s[k].toNat * 2 ^ (7 * k) = Z := ⟨_, rfl⟩
            rw [hZ] at e2 j1 j3
            have E2 : Hid (takeNumV s = .tuple #[.int .i64 (Lib.unzigzag Z), .string (s.extract (k + 1) s.size), .int .i64 0]) := e2
            have J1 : Hid (bits .or .u64 (acc : Int) (IntKind.u64.wrap ((s[k].toNat : Int) * 2 ^ (7 * k))) = (Z : Int)) := j1
            have J3 : Hid (Z < 18446744073709551616) := j3
            have h9 : ((k : Int) == 9) = false ∨ ((k : Int) == 9) = true ∧ (s[k].toNat : Int) ≤ 1 := by
              by_cases h9 : k = 9
              · exact .inr ⟨by simp; omega, by omega⟩
              · exact .inl (by simp; omega)
            have h0 : ((s[k].toNat : Int) == 0) = false ∨ ((s[k].toNat : Int) == 0) = true ∧ k ≤ 0 := by
              by_cases h0 : s[k].toNat = 0
              · exact .inr ⟨by simpa using h0, by omega⟩
              · exact .inl (by simpa using h0)
            clear ha2 h1 h2 E HA ha4 j1 j2 j3 h3 e2 hZ
            rcases h9 with h9 | ⟨h9, h9'⟩ <;> rcases h0 with h0 | ⟨h0, h0'⟩
            all_goals
              go_wp2
              rw [J1.out]
              go_quiet ((go_at_call 84; exact Calls.quiet_of_same (unfold_nat _ _ J3.out)))
              go_wp2
              go_ret3
              exact ⟨congrArg Ending.returned E2.out.symm, _, rfl⟩
    · have E2 : Hid (takeNumV s = .tuple #[.int .i64 0, .string ⟨#[]⟩, .int .i64 2]) := by
        refine takeNumV_no ?_
        rw [E.out]
        by_cases hsz : s.size ≤ k
        · rw [drop_all s k hsz]; simp [takeZ]
        · rw [drop_at s k (by omega), takeZ, if_pos (by omega)]
      clear E HA
      go_wp2
      all_goals go_ret3
      all_goals exact ⟨congrArg Ending.returned E2.out.symm, 0, rfl⟩

end Go.Proofs.Ytokldcifhjkmnaa.Wir
