/- The contracts of sum.shift, sum.Sum, sum.chunkCount and sum.chunkAt. -/
import Derived.Test.YtokldcifhjkmnaaSumM
import Derived.Test.YtokldcifhjkmnaaWireUse
namespace Go.Proofs.Ytokldcifhjkmnaa.Smm
open Go.RowKit Go.Proofs.Ytokldcifhjkmnaa.Wir

theorem c1_odd {u : BitVec 32} (h : u.getLsbD 0 = true) : zV (c1 u) = bits .xor .u32 (zV u / 2) 3988292384 := by
  rw [half_zV, ← zV_poly, bits_xor_zV]; unfold c1; rw [if_pos h]
theorem c1_even {u : BitVec 32} (h : u.getLsbD 0 = false) : zV (c1 u) = zV u / 2 := by
  rw [half_zV]; unfold c1; rw [h]; rfl
theorem cN_next {k : Nat} (u : BitVec 32) (h : k < 8) : cN (8 - (k + 1)) (c1 u) = cN (8 - k) u := by
  have : 8 - k = (8 - (k + 1)) + 1 := by omega
  rw [this]; rfl

set_option maxRecDepth 100000 in
set_option maxHeartbeats 400000 in
theorem shift_any (x : Int) (v : BitVec 32) (w : World) (hx : x = zV v) :
    Calls Try.prog 88 #[.int .u32 x] w fun e w' => e = .returned (.int .u32 (zV (cN 8 v))) ∧ w' = w := by
  go_enter Try.func88, Try.ntmps88
  go_wp2
  go_loop [0, 4] (fun z c => ∃ (k : Nat) (u : BitVec 32), k ≤ 8 ∧ c = .int .i64 k ∧ z = .int .u32 (zV u) ∧ cN (8 - k) u = cN 8 v) (fun _ c => 8 - (intOf c).toNat)
  case atStart => exact ⟨0, v, by omega, rfl, by rw [hx], rfl⟩
  case round =>
    obtain ⟨k, u, hk, rfl, rfl, hE⟩ := hrel
    have h0 := zV_nonneg u
    have h1 := zV_lt u
    have E : Hid (cN (8 - k) u = cN 8 v) := hE
    clear hE hx
    by_cases hlt : k < 8
    · have E2 : Hid (cN (8 - (k + 1)) (c1 u) = cN 8 v) := (cN_next u hlt).trans E.out
      clear E
      have ha := bits_and1_zV u
      cases hb : u.getLsbD 0 with
      | true =>
        have hq : (bits .and .u32 (zV u) 1 == 1) = true := by rw [ha, hb]; rfl
        have E3 : Hid (zV (c1 u) = bits .xor .u32 (zV u / 2) 3988292384) := c1_odd hb
        clear ha
        generalize zV u = Z at *
        go_wp2
        go_round
        case rel => exact ⟨k + 1, c1 u, by omega, by go_num, by rw [E3.out], E2.out⟩
        case measure => simp [intOf]; omega
      | false =>
        have hq : (bits .and .u32 (zV u) 1 == 1) = false := by rw [ha, hb]; rfl
        have E3 : Hid (zV (c1 u) = zV u / 2) := c1_even hb
        clear ha
        generalize zV u = Z at *
        go_wp2
        go_round
        case rel => exact ⟨k + 1, c1 u, by omega, by go_num, by rw [E3.out], E2.out⟩
        case measure => simp [intOf]; omega
    · have hk8 : k = 8 := by omega
      subst hk8
      have E3 : Hid (u = cN 8 v) := E.out
      clear E
      go_wp2
      go_ret
      exact ⟨ret_int (congrArg zV E3.out), rfl⟩

theorem take_snoc (l : List UInt8) (k : Nat) (h : k < l.length) : l.take (k + 1) = l.take k ++ [l[k]] := List.take_succ_eq_append_getElem h

theorem crc_next (s : ByteArray) (k : Nat) (h : k < s.size) : crcFrom (BitVec.allOnes 32) (s.data.toList.take (k + 1)) = cN 8 (crcFrom (BitVec.allOnes 32) (s.data.toList.take k) ^^^ byteV s[k]) := by
  rw [take_snoc _ _ (by rw [Array.length_toList]; exact h), crcFrom_snoc]; rfl
theorem xor_byte (u : BitVec 32) (b : UInt8) : bits .xor .u32 (zV u) ((b.toNat : Int) % 4294967296) = zV (u ^^^ byteV b) := by
  have := UInt8.toNat_lt b
  rw [← bits_xor_zV, zV_byte, Int.emod_eq_of_lt (by omega) (by omega)]
theorem crc_all (s : ByteArray) : crcFrom (BitVec.allOnes 32) (s.data.toList.take s.size) = crcFrom (BitVec.allOnes 32) s.data.toList := by
  rw [List.take_of_length_le]; rw [Array.length_toList]; exact Nat.le_refl _

set_option maxRecDepth 100000 in
set_option maxHeartbeats 400000 in
theorem sum_any (s : ByteArray) (w : World) (hs : s.size ≤ maxLen) :
    Calls Try.prog 82 #[.string s] w fun e w' => e = .returned (.int .u32 (sumZ s.data.toList)) ∧ w' = w := by
  have hmx : s.size ≤ 9223372036854775807 := by unfold maxLen at hs; omega
  go_enter Try.func82, Try.ntmps82
  go_wp2
  go_loop [3, 7] (fun z c => ∃ (k : Nat) (u : BitVec 32), k ≤ s.size ∧ c = .int .i64 k ∧ z = .int .u32 (zV u) ∧ crcFrom (BitVec.allOnes 32) (s.data.toList.take k) = u) (fun _ c => s.size - (intOf c).toNat)
  case atStart => exact ⟨0, _, by omega, rfl, rfl, rfl⟩
  case round =>
    obtain ⟨k, u, hk, rfl, rfl, hu⟩ := hrel
    have h0 := zV_nonneg u
    have h1 := zV_lt u
    by_cases hlt : k < s.size
    · have E : Hid (crcFrom (BitVec.allOnes 32) (s.data.toList.take (k + 1)) = cN 8 (u ^^^ byteV s[k])) := by rw [← hu]; exact crc_next s k hlt
      clear hu
      go_wp2_with fail
      refine (shift_any _ (u ^^^ byteV s[k]) _ (xor_byte u s[k])).mono ?_
      rintro e w' ⟨rfl, rfl⟩
      go_wp2
      go_round
      case rel => exact ⟨k + 1, _, by omega, by go_num, rfl, E.out⟩
      case measure => simp [intOf]; omega
    · have hk8 : k = s.size := by omega
      subst hk8
      have E : Hid (zV (~~~ u) = sumZ s.data.toList) := by rw [← hu, crc_all]; rfl
      have hn := not_bits u
      clear hu
      generalize zV u = Z at *
      go_wp2
      go_ret
      exact ⟨ret_int E.out, rfl⟩

theorem nat8_div (n : Nat) : ((n : Int) + 8 - 1) / 8 = (((n + 7) / 8 : Nat) : Int) := by omega

theorem ret_bytes {a b : ByteArray} (h : a = b) : Ending.returned (.string a) = .returned (.string b) := by rw [h]
/-- The chunk at place i. -/
def chunkS (s : ByteArray) (i : Nat) : ByteArray := s.extract (i * 8) (min (i * 8 + 8) s.size)

end Go.Proofs.Ytokldcifhjkmnaa.Smm
