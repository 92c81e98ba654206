/- The contracts of tabulariumref02.Sum and tabulariumref02.Four. -/
import Derived.Test.YtokldcifhjkmnaaSumText
namespace Go.Proofs.Ytokldcifhjkmnaa.Smm
open Go.RowKit Go.Proofs.Ytokldcifhjkmnaa.Wir

set_option maxRecDepth 100000 in
set_option maxHeartbeats 400000 in
theorem refSum_any (s : ByteArray) (w : World) (hs : s.size ≤ maxLen) :
    Calls Try.prog 60 #[.string s] w fun e w' => e = .returned (.int .u32 (sumZ s.data.toList)) ∧ w' = w := by
  have hmx : s.size ≤ 9223372036854775807 := by unfold maxLen at hs; omega
  go_enter Try.func60, Try.ntmps60
  go_wp2
  go_loop [3, 4] (fun z c => ∃ (k : Nat) (u : BitVec 32), k ≤ s.size ∧ c = .int .i64 k ∧ z = .int .u32 (zV u) ∧ crcFrom (BitVec.allOnes 32) (s.data.toList.take k) = u) (fun _ c => s.size - (intOf c).toNat)
  case atStart => exact ⟨0, _, by omega, rfl, rfl, rfl⟩
  case round =>
    obtain ⟨k, u, hk, rfl, rfl, hu⟩ := hrel
    have h0 := zV_nonneg u
    have h1 := zV_lt u
    by_cases hlt : k < s.size
    · have E : Hid (crcFrom (BitVec.allOnes 32) (s.data.toList.take (k + 1)) = cN 8 (u ^^^ byteV s[k])) := by rw [← hu]; exact crc_next s k hlt
      have X : Hid (bits .xor .u32 (zV u) ((s[k].toNat : Int) % 4294967296) = zV (u ^^^ byteV s[k])) := xor_byte u s[k]
      clear hu
      generalize u ^^^ byteV s[k] = v at *
      go_wp2
      go_loop [3, 5] (fun z c => ∃ (j : Nat) (x : BitVec 32), j ≤ 8 ∧ c = .int .i64 j ∧ z = .int .u32 (zV x) ∧ cN (8 - j) x = cN 8 v) (fun _ c => 8 - (intOf c).toNat)
      case atStart => exact ⟨0, v, by omega, rfl, by rw [X.out], rfl⟩
      case round =>
        obtain ⟨j, x, hj, rfl, rfl, hE⟩ := hrel
        have h2 := zV_nonneg x
        have h3 := zV_lt x
        have E1 : Hid (cN (8 - j) x = cN 8 v) := hE
        clear hE
        by_cases hlj : j < 8
        · have E2 : Hid (cN (8 - (j + 1)) (c1 x) = cN 8 v) := (cN_next x hlj).trans E1.out
          clear E1
          have ha := bit0_mod x
          cases hb : x.getLsbD 0 with
          | true =>
            have hq : zV x % (2 : Int) = 1 := by rw [hb] at ha; simpa using ha.symm
            have E3 : Hid (zV (c1 x) = bits .xor .u32 (zV x / 2) 3988292384) := c1_odd hb
            clear ha X h0 h1
            generalize zV x = Z at *
            go_wp2
            go_round
            case rel => exact ⟨j + 1, c1 x, by omega, by go_num, by rw [E3.out], E2.out⟩
            case measure => simp [intOf]; omega
          | false =>
            have hq : ¬ zV x % (2 : Int) = 1 := by rw [hb] at ha; simpa using ha.symm
            have E3 : Hid (zV (c1 x) = zV x / 2) := c1_even hb
            clear ha X h0 h1
            generalize zV x = Z at *
            go_wp2
            go_round
            case rel => exact ⟨j + 1, c1 x, by omega, by go_num, by rw [E3.out], E2.out⟩
            case measure => simp [intOf]; omega
        · have hk8 : j = 8 := by omega
          subst hk8
          have E3 : Hid (crcFrom (BitVec.allOnes 32) (s.data.toList.take (k + 1)) = x) := by rw [E.out]; exact E1.out.symm
          clear E1 E X
          go_wp2
          go_round
          case rel => exact ⟨k + 1, _, by omega, by go_num, rfl, E3.out⟩
          case measure => simp [intOf]; omega
    · have hk8 : k = s.size := by omega
      subst hk8
      have E : Hid (zV (~~~ u) = sumZ s.data.toList) := by rw [← hu, crc_all]; rfl
      have hn := not_bits u
      clear hu
      generalize zV u = Z at *
      go_wp2
      go_ret
      exact ⟨ret_int E.out, rfl⟩

set_option maxRecDepth 100000 in
set_option maxHeartbeats 1000000 in
theorem four_any (N : Nat) (w : World) (hN : N < 4294967296) :
    Calls Try.prog 59 #[.int .u32 (N : Int)] w fun e w' => e = .returned (.string ⟨(q4B N).toArray⟩) ∧ Below w.heap.size w w' := by
  have hc : ∀ j (hj : j < (q4B N).length), (w.alloc (Obj.cells #[.int .u8 ((N : Int) / 16777216), .int .u8 ((N : Int) / 65536 % 256), .int .u8 ((N : Int) / 256 % 256), .int .u8 ((N : Int) % 256)] 5)).cell? ((⟨w.heap.size, 0, none⟩ : Addr).add j) = some (.int .u8 ((q4B N)[j].toNat : Int)) := by
    intro j hj
    have hl : (q4B N).length = 4 := by simp [q4B]
    rw [Addr.add_lit, Nat.zero_add, World.cell?_alloc_new]
    have hg : (q4B N)[j] = q4At N j := by simp [q4B]
    rw [hg, ← q4At_int]
    match j, (by omega : j < 4) with
    | 0, _ => 
      have : (N : Int) / 2 ^ (8 * (3 - 0)) % 256 = (N : Int) / 16777216 := by
        show (N : Int) / 16777216 % 256 = _
        omega
      rw [this]; rfl
    | 1, _ => rfl
    | 2, _ => rfl
    | 3, _ =>
      have : (N : Int) / 2 ^ (8 * (3 - 3)) % 256 = (N : Int) % 256 := by
        show (N : Int) / 1 % 256 = _
        omega
      rw [this]; rfl
  have hcv := run_convert_bytes_back (P := Try.prog) _ 57 9 5 ⟨w.heap.size, 0, none⟩ 4 (q4B N) Try.underlying57 Try.underlying5 Try.underlying9 hc
  have hl : (q4B N).length = 4 := by simp [q4B]
  rw [hl] at hcv
  have bel : Below w.heap.size w (w.alloc (Obj.cells #[.int .u8 ((N : Int) / 16777216), .int .u8 ((N : Int) / 65536 % 256), .int .u8 ((N : Int) / 256 % 256), .int .u8 ((N : Int) % 256)] 5)) := (Below.refl _ _).alloc (Nat.le_refl _) _
  clear hc hl
  go_enter Try.func59, Try.ntmps59
  go_wp2
  go_ret
  exact ⟨rfl, bel⟩

theorem refSum_nat (s : ByteArray) (N : Nat) (w : World) (hs : s.size ≤ maxLen) (hN : sumN s.data.toList = N) :
    Calls Try.prog 60 #[.string s] w fun e w' => e = .returned (.int .u32 (N : Int)) ∧ w' = w := by
  subst hN; exact refSum_any s w hs

end Go.Proofs.Ytokldcifhjkmnaa.Smm
