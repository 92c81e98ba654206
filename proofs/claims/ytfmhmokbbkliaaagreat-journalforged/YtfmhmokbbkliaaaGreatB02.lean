/- Part 2 of the proof: WireTake, WireTz, WireUse, WireText, WireTextM, WireRef. -/
import Derived.Test.YtfmhmokbbkliaaaGreatB01
import Derived.BigQuiet
import Derived.Deep.QuietTactic

/- The contract of wire.TakeNum. -/
namespace Go.Proofs.YtfmhmokbbkliaaaGreat.Wir
open Go.RowKit Go.Proofs.YtfmhmokbbkliaaaGreat

/-- What TakeNum reads from the i-th byte on: the number (folded), and how many bytes in all. -/
def takeZ : Nat → Nat → List UInt8 → Option (Nat × Nat)
  | _, _, [] => none
  | i, acc, b :: r =>
    if 9 < i then none
    else if i = 9 ∧ 1 < b.toNat then none
    else if 128 ≤ b.toNat then takeZ (i + 1) (acc + b.toNat % 128 * 2 ^ (7 * i)) r
    else if b.toNat = 0 ∧ 0 < i then none
    else some (acc + b.toNat * 2 ^ (7 * i), i + 1)

/-- What TakeNum answers. -/
def takeNumV (s : ByteArray) : Value := match takeZ 0 0 s.data.toList with
  | none => .tuple #[.int .i64 0, .string ⟨#[]⟩, .int .i64 2]
  | some (z, k) => .tuple #[.int .i64 (Lib.unzigzag z), .string (s.extract k s.size), .int .i64 0]
theorem takeNumV_no {s : ByteArray} (h : takeZ 0 0 s.data.toList = none) : takeNumV s = .tuple #[.int .i64 0, .string ⟨#[]⟩, .int .i64 2] := by unfold takeNumV; rw [h]
theorem takeNumV_yes {s : ByteArray} {z k : Nat} (h : takeZ 0 0 s.data.toList = some (z, k)) : takeNumV s = .tuple #[.int .i64 (Lib.unzigzag z), .string (s.extract k s.size), .int .i64 0] := by unfold takeNumV; rw [h]

theorem and128_nat : ∀ a : Fin 256, (a.val &&& 128) = if 128 ≤ a.val then 128 else 0 := by decide +kernel
theorem andNot128 : ∀ a : Fin 256, bits .andNot .u8 (a.val : Int) 128 = ((a.val % 128 : Nat) : Int) := by decide +kernel
theorem and128 : ∀ a : Fin 256, bits .and .u8 (a.val : Int) 128 = if 128 ≤ a.val then 128 else 0 := by decide +kernel

theorem andNot128_byte (c : UInt8) : bits .andNot .u8 (c.toNat : Int) 128 = ((c.toNat % 128 : Nat) : Int) := andNot128 ⟨c.toNat, c.toNat_lt⟩
theorem and128_byte (c : UInt8) : bits .and .u8 (c.toNat : Int) 128 = if 128 ≤ c.toNat then 128 else 0 := and128 ⟨c.toNat, c.toNat_lt⟩

theorem or_join (k acc c : Nat) (hk : k < 10) (hacc : acc < 2 ^ (7 * k)) (hc : c < 128) (h9 : k = 9 → c ≤ 1) :
    bits .or .u64 (acc : Int) (IntKind.u64.wrap ((c : Int) * 2 ^ (7 * k))) = ((acc + c * 2 ^ (7 * k) : Nat) : Int) ∧ acc + c * 2 ^ (7 * k) < 2 ^ (7 * (k + 1)) ∧ acc + c * 2 ^ (7 * k) < 18446744073709551616 := by
  have hs : k = 0 ∨ k = 1 ∨ k = 2 ∨ k = 3 ∨ k = 4 ∨ k = 5 ∨ k = 6 ∨ k = 7 ∨ k = 8 ∨ k = 9 := by omega
  rcases hs with rfl | rfl | rfl | rfl | rfl | rfl | rfl | rfl | rfl | rfl
  · have e : (2 : Nat) ^ (7 * 0) = 1 := by decide
    have e' : (2 : Nat) ^ (7 * (0 + 1)) = 128 := by decide
    have e2 : (2 : Int) ^ (7 * 0) = 1 := by decide
    rw [e] at hacc
    refine ⟨?_, by rw [e, e']; omega, by rw [e]; omega⟩
    rw [e, e2, IntKind.wrap_u64, Int.emod_eq_of_lt (by omega) (by omega), u64_orv0 _ _ (by omega) (by omega) (by omega) (by omega) (by omega)]
    omega
  · have e : (2 : Nat) ^ (7 * 1) = 128 := by decide
    have e' : (2 : Nat) ^ (7 * (1 + 1)) = 16384 := by decide
    have e2 : (2 : Int) ^ (7 * 1) = 128 := by decide
    rw [e] at hacc
    refine ⟨?_, by rw [e, e']; omega, by rw [e]; omega⟩
    rw [e, e2, IntKind.wrap_u64, Int.emod_eq_of_lt (by omega) (by omega), u64_orv7 _ _ (by omega) (by omega) (by omega) (by omega) (by omega)]
    omega
  · have e : (2 : Nat) ^ (7 * 2) = 16384 := by decide
    have e' : (2 : Nat) ^ (7 * (2 + 1)) = 2097152 := by decide
    have e2 : (2 : Int) ^ (7 * 2) = 16384 := by decide
    rw [e] at hacc
    refine ⟨?_, by rw [e, e']; omega, by rw [e]; omega⟩
    rw [e, e2, IntKind.wrap_u64, Int.emod_eq_of_lt (by omega) (by omega), u64_orv14 _ _ (by omega) (by omega) (by omega) (by omega) (by omega)]
    omega
  · have e : (2 : Nat) ^ (7 * 3) = 2097152 := by decide
    have e' : (2 : Nat) ^ (7 * (3 + 1)) = 268435456 := by decide
    have e2 : (2 : Int) ^ (7 * 3) = 2097152 := by decide
    rw [e] at hacc
    refine ⟨?_, by rw [e, e']; omega, by rw [e]; omega⟩
    rw [e, e2, IntKind.wrap_u64, Int.emod_eq_of_lt (by omega) (by omega), u64_orv21 _ _ (by omega) (by omega) (by omega) (by omega) (by omega)]
    omega
  · have e : (2 : Nat) ^ (7 * 4) = 268435456 := by decide
    have e' : (2 : Nat) ^ (7 * (4 + 1)) = 34359738368 := by decide
    have e2 : (2 : Int) ^ (7 * 4) = 268435456 := by decide
    rw [e] at hacc
    refine ⟨?_, by rw [e, e']; omega, by rw [e]; omega⟩
    rw [e, e2, IntKind.wrap_u64, Int.emod_eq_of_lt (by omega) (by omega), u64_orv28 _ _ (by omega) (by omega) (by omega) (by omega) (by omega)]
    omega
  · have e : (2 : Nat) ^ (7 * 5) = 34359738368 := by decide
    have e' : (2 : Nat) ^ (7 * (5 + 1)) = 4398046511104 := by decide
    have e2 : (2 : Int) ^ (7 * 5) = 34359738368 := by decide
    rw [e] at hacc
    refine ⟨?_, by rw [e, e']; omega, by rw [e]; omega⟩
    rw [e, e2, IntKind.wrap_u64, Int.emod_eq_of_lt (by omega) (by omega), u64_orv35 _ _ (by omega) (by omega) (by omega) (by omega) (by omega)]
    omega
  · have e : (2 : Nat) ^ (7 * 6) = 4398046511104 := by decide
    have e' : (2 : Nat) ^ (7 * (6 + 1)) = 562949953421312 := by decide
    have e2 : (2 : Int) ^ (7 * 6) = 4398046511104 := by decide
    rw [e] at hacc
    refine ⟨?_, by rw [e, e']; omega, by rw [e]; omega⟩
    rw [e, e2, IntKind.wrap_u64, Int.emod_eq_of_lt (by omega) (by omega), u64_orv42 _ _ (by omega) (by omega) (by omega) (by omega) (by omega)]
    omega
  · have e : (2 : Nat) ^ (7 * 7) = 562949953421312 := by decide
    have e' : (2 : Nat) ^ (7 * (7 + 1)) = 72057594037927936 := by decide
    have e2 : (2 : Int) ^ (7 * 7) = 562949953421312 := by decide
    rw [e] at hacc
    refine ⟨?_, by rw [e, e']; omega, by rw [e]; omega⟩
    rw [e, e2, IntKind.wrap_u64, Int.emod_eq_of_lt (by omega) (by omega), u64_orv49 _ _ (by omega) (by omega) (by omega) (by omega) (by omega)]
    omega
  · have e : (2 : Nat) ^ (7 * 8) = 72057594037927936 := by decide
    have e' : (2 : Nat) ^ (7 * (8 + 1)) = 9223372036854775808 := by decide
    have e2 : (2 : Int) ^ (7 * 8) = 72057594037927936 := by decide
    rw [e] at hacc
    refine ⟨?_, by rw [e, e']; omega, by rw [e]; omega⟩
    rw [e, e2, IntKind.wrap_u64, Int.emod_eq_of_lt (by omega) (by omega), u64_orv56 _ _ (by omega) (by omega) (by omega) (by omega) (by omega)]
    omega
  · have e : (2 : Nat) ^ (7 * 9) = 9223372036854775808 := by decide
    have e' : (2 : Nat) ^ (7 * (9 + 1)) = 1180591620717411303424 := by decide
    have e2 : (2 : Int) ^ (7 * 9) = 9223372036854775808 := by decide
    rw [e] at hacc
    refine ⟨?_, by rw [e, e']; omega, by rw [e]; omega⟩
    rw [e, e2, IntKind.wrap_u64, Int.emod_eq_of_lt (by omega) (by omega), u64_orv63 _ _ (by omega) (by omega) (by omega) (by omega) (by omega)]
    omega

theorem drop_at (s : ByteArray) (k : Nat) (h : k < s.size) : s.data.toList.drop k = s[k] :: s.data.toList.drop (k + 1) := by
  rw [List.drop_eq_getElem_cons (by simpa using h)]; rfl
theorem drop_all (s : ByteArray) (k : Nat) (h : s.size ≤ k) : s.data.toList.drop k = [] := List.drop_eq_nil_of_le (by simpa using h)

set_option maxRecDepth 100000 in
set_option maxHeartbeats 1000000 in
theorem takeNum_any (s : ByteArray) (w : World) (hs : s.size ≤ maxLen) :
    Calls Tryz.prog 124 #[.string s] w fun e w' => e = .returned (takeNumV s) ∧ ∃ n, w' = w.drewN n := by
  unfold maxLen at hs
  go_enter Tryz.func124, Tryz.ntmps124
  go_wp2
  go_loop [5, 6] (fun z i => ∃ (k acc : Nat), k ≤ s.size ∧ k ≤ 10 ∧ acc < 2 ^ (7 * k) ∧ i = .int .i64 k ∧ z = .int .u64 acc ∧ takeZ 0 0 s.data.toList = takeZ k acc (s.data.toList.drop k)) (fun _ i => s.size - (intOf i).toNat)
  case atStart => exact ⟨0, 0, by omega, by omega, by omega, rfl, rfl, rfl⟩
  case round =>
    obtain ⟨k, acc, hk, hk10, hacc, rfl, rfl, hE⟩ := hrel
    have E : Hid (takeZ 0 0 s.data.toList = takeZ k acc (s.data.toList.drop k)) := hE
    have HA : Hid (acc < 2 ^ (7 * k)) := hacc
    clear hE hacc
    by_cases hlt : k < s.size ∧ k < 10
    · obtain ⟨hlt, hlt10⟩ := hlt
      have ha1 := andNot128_byte s[k]
      have ha2 := and128_byte s[k]
      by_cases h1 : k = 9 ∧ 1 < s[k].toNat
      · obtain ⟨h1a, h1b⟩ := h1
        have h9 : ((k : Int) == 9) = true := by simp; omega
        have hc1 : (1 : Int) < (s[k].toNat : Int) := by omega
        have E2 : Hid (takeNumV s = .tuple #[.int .i64 0, .string ⟨#[]⟩, .int .i64 2]) := by
          refine takeNumV_no ?_
          rw [E.out, drop_at s k hlt, takeZ, if_neg (by omega), if_pos ⟨h1a, h1b⟩]
        clear ha1 ha2 E HA h1a h1b
        go_wp2
        go_ret3
        exact ⟨congrArg Ending.returned E2.out.symm, 0, rfl⟩
      · by_cases h2 : 128 ≤ s[k].toNat
        · have h9 : k < 9 := by omega
          have h2' : (128 : Int) ≤ (s[k].toNat : Int) := by omega
          have ha3 : (bits .and .u8 (s[k].toNat : Int) 128 != 0) = true := by rw [ha2, if_pos h2]; rfl
          obtain ⟨j1, j2, j3⟩ := or_join k acc (s[k].toNat % 128) hlt10 HA.out (by omega) (by omega)
          have J1 : Hid (bits .or .u64 (acc : Int) (IntKind.u64.wrap (((s[k].toNat % 128 : Nat) : Int) * 2 ^ (7 * k))) = ((acc + s[k].toNat % 128 * 2 ^ (7 * k) : Nat) : Int)) := j1
          have J2 : Hid (acc + s[k].toNat % 128 * 2 ^ (7 * k) < 2 ^ (7 * (k + 1))) := j2
          have E2 : Hid (takeZ 0 0 s.data.toList = takeZ (k + 1) (acc + s[k].toNat % 128 * 2 ^ (7 * k)) (s.data.toList.drop (k + 1))) := by
            show (_ : Option (Nat × Nat)) = _
            rw [E.out, drop_at s k hlt, takeZ, if_neg (by omega), if_neg h1, if_pos h2]
          clear ha2 h1 h2 j1 j2 j3 E HA
          go_wp2
          go_round
          case rel => exact ⟨k + 1, _, by omega, by omega, J2.out, by go_num, congrArg (Value.int .u64) J1.out, E2.out⟩
          case measure => simp [intOf]; omega
        · have h2' : (s[k].toNat : Int) < 128 := by omega
          have ha3 : (bits .and .u8 (s[k].toNat : Int) 128 != 0) = false := by rw [ha2, if_neg h2]; rfl
          have ha4 : s[k].toNat % 128 = s[k].toNat := by omega
          rw [ha4] at ha1
          by_cases h3 : s[k].toNat = 0 ∧ 0 < k
          · obtain ⟨h3a, h3b⟩ := h3
            have h4 : ((s[k].toNat : Int) == 0) = true := by simpa using h3a
            have E2 : Hid (takeNumV s = .tuple #[.int .i64 0, .string ⟨#[]⟩, .int .i64 2]) := by
              refine takeNumV_no ?_
              rw [E.out, drop_at s k hlt, takeZ, if_neg (by omega), if_neg h1, if_neg h2, if_pos ⟨h3a, h3b⟩]
            clear ha2 h1 h2 E HA ha4 h3a
            go_wp2
            all_goals go_ret3
            all_goals exact ⟨congrArg Ending.returned E2.out.symm, 0, rfl⟩
          · obtain ⟨j1, j2, j3⟩ := or_join k acc s[k].toNat hlt10 HA.out (by omega) (by omega)
            have e2 : takeNumV s = .tuple #[.int .i64 (Lib.unzigzag (acc + s[k].toNat * 2 ^ (7 * k))), .string (s.extract (k + 1) s.size), .int .i64 0] := by
              refine takeNumV_yes ?_
              rw [E.out, drop_at s k hlt, takeZ, if_neg (by omega), if_neg h1, if_neg h2, if_neg h3]
            obtain ⟨Z, hZ⟩ : ∃ Z, acc + s[k].toNat * 2 ^ (7 * k) = Z := ⟨_, rfl⟩
            rw [hZ] at e2 j1 j3
            have E2 : Hid (takeNumV s = .tuple #[.int .i64 (Lib.unzigzag Z), .string (s.extract (k + 1) s.size), .int .i64 0]) := e2
            have J1 : Hid (bits .or .u64 (acc : Int) (IntKind.u64.wrap ((s[k].toNat : Int) * 2 ^ (7 * k))) = (Z : Int)) := j1
            have J3 : Hid (Z < 18446744073709551616) := j3
            have h9 : ((k : Int) == 9) = false ∨ ((k : Int) == 9) = true ∧ (s[k].toNat : Int) ≤ 1 := by
              by_cases h9 : k = 9
              · exact .inr ⟨by simp; omega, by omega⟩
              · exact .inl (by simp; omega)
            have h0 : ((s[k].toNat : Int) == 0) = false ∨ ((s[k].toNat : Int) == 0) = true ∧ k ≤ 0 := by
              by_cases h0 : s[k].toNat = 0
              · exact .inr ⟨by simpa using h0, by omega⟩
              · exact .inl (by simpa using h0)
            clear ha2 h1 h2 E HA ha4 j1 j2 j3 h3 e2 hZ
            rcases h9 with h9 | ⟨h9, h9'⟩ <;> rcases h0 with h0 | ⟨h0, h0'⟩
            all_goals
              go_wp2
              rw [J1.out]
              go_quiet ((go_at_call 150; exact Calls.quiet_of_same (unfold_nat _ _ J3.out)))
              go_wp2
              go_ret3
              exact ⟨congrArg Ending.returned E2.out.symm, _, rfl⟩
    · have E2 : Hid (takeNumV s = .tuple #[.int .i64 0, .string ⟨#[]⟩, .int .i64 2]) := by
        refine takeNumV_no ?_
        rw [E.out]
        by_cases hsz : s.size ≤ k
        · rw [drop_all s k hsz]; simp [takeZ]
        · rw [drop_at s k (by omega), takeZ, if_pos (by omega)]
      clear E HA
      go_wp2
      all_goals go_ret3
      all_goals exact ⟨congrArg Ending.returned E2.out.symm, 0, rfl⟩

end Go.Proofs.YtfmhmokbbkliaaaGreat.Wir

/- Plain facts on what TakeNum reads: it reads just what Num writes. -/
namespace Go.Proofs.YtfmhmokbbkliaaaGreat.Wir

theorem pow_step (i : Nat) : 2 ^ (7 * (i + 1)) = 128 * 2 ^ (7 * i) := by
  rw [show 7 * (i + 1) = 7 * i + 7 by omega, Nat.pow_add, Nat.mul_comm]
theorem pow_rest (i : Nat) (h : i ≤ 8) : 2 ^ (64 - 7 * i) = 128 * 2 ^ (64 - 7 * (i + 1)) := by
  rw [show 64 - 7 * i = (64 - 7 * (i + 1)) + 7 by omega, Nat.pow_add, Nat.mul_comm]
theorem join7 (a b P : Nat) : a * P + b * (128 * P) = (a + 128 * b) * P := by
  rw [Nat.add_mul, Nat.mul_comm 128 b, Nat.mul_assoc]

/-- What Num writes is read, whatever stands behind. -/
theorem takeZ_uv : ∀ (f u i acc : Nat) (r : List UInt8), u < f → i ≤ 9 → u < 2 ^ (64 - 7 * i) → (0 < i → 1 ≤ u) →
    takeZ i acc (Lib.uvarint u ++ r) = some (acc + u * 2 ^ (7 * i), i + (Lib.uvarint u).length)
  | 0, _, _, _, _, h, _, _, _ => absurd h (Nat.not_lt_zero _)
  | f + 1, u, i, acc, r, hf, hi, hu, hp => by
    have h9 : i = 9 → u ≤ 1 := by
      intro e
      subst e
      have : u < 2 ^ (64 - 7 * 9) := hu
      omega
    by_cases hs : u < 128
    · rw [Lib.uvarint_small hs]
      simp only [List.cons_append, List.nil_append, takeZ, Lib.toUInt8_toNat (show u < 256 by omega), List.length_singleton]
      rw [if_neg (by omega), if_neg (by omega), if_neg (by omega), if_neg (by omega)]
    · have hi8 : i ≤ 8 := by omega
      rw [Lib.uvarint_big (by omega)]
      simp only [List.cons_append, takeZ, Lib.toUInt8_toNat (show u % 128 + 128 < 256 by omega), List.length_cons]
      rw [if_neg (by omega), if_neg (by omega), if_pos (by omega)]
      rw [takeZ_uv f (u / 128) (i + 1) _ r (by omega) (by omega) (by rw [pow_rest i hi8] at hu; exact Nat.div_lt_of_lt_mul hu) (by omega)]
      rw [pow_step, Nat.add_assoc, join7, show (u % 128 + 128) % 128 + 128 * (u / 128) = u by omega]
      rw [show i + 1 + (Lib.uvarint (u / 128)).length = i + ((Lib.uvarint (u / 128)).length + 1) by omega]

/-- What is read is what Num writes. -/
theorem takeZ_sound : ∀ (l : List UInt8) (i acc z k : Nat), i ≤ 9 → takeZ i acc l = some (z, k) →
    ∃ u, z = acc + u * 2 ^ (7 * i) ∧ i ≤ k ∧ k - i ≤ l.length ∧ l.take (k - i) = Lib.uvarint u ∧ (0 < i → 1 ≤ u) ∧ u < 2 ^ (64 - 7 * i)
  | [], _, _, _, _, _, h => by simp [takeZ] at h
  | b :: r, i, acc, z, k, hi, h => by
    have hb := b.toNat_lt
    simp only [takeZ] at h
    rw [if_neg (by omega)] at h
    by_cases h1 : i = 9 ∧ 1 < b.toNat
    · rw [if_pos h1] at h; cases h
    · rw [if_neg h1] at h
      by_cases h2 : 128 ≤ b.toNat
      · rw [if_pos h2] at h
        have hi8 : i ≤ 8 := by omega
        obtain ⟨u, e1, e2, e3, e4, e5, e6⟩ := takeZ_sound r (i + 1) _ z k (by omega) h
        have hu1 := e5 (by omega)
        refine ⟨b.toNat % 128 + 128 * u, ?_, by omega, by simp; omega, ?_, by omega, ?_⟩
        · rw [e1, pow_step, Nat.add_assoc, join7]
        · rw [show k - i = (k - (i + 1)) + 1 by omega, List.take_succ_cons, e4, Lib.uvarint_big (x := b.toNat % 128 + 128 * u) (by omega)]
          rw [show (b.toNat % 128 + 128 * u) / 128 = u by omega, show (b.toNat % 128 + 128 * u) % 128 + 128 = b.toNat by omega]
          simp [Nat.toUInt8]
        · rw [pow_rest i hi8]; omega
      · rw [if_neg h2] at h
        by_cases h3 : b.toNat = 0 ∧ 0 < i
        · rw [if_pos h3] at h; cases h
        · rw [if_neg h3] at h
          simp only [Option.some.injEq, Prod.mk.injEq] at h
          obtain ⟨rfl, rfl⟩ := h
          refine ⟨b.toNat, rfl, by omega, by simp, ?_, by omega, ?_⟩
          · rw [show i + 1 - i = 1 by omega, Lib.uvarint_small (by omega)]; simp [Nat.toUInt8]
          · by_cases h9 : i = 9
            · subst h9; have : b.toNat ≤ 1 := by omega
              exact Nat.lt_of_le_of_lt this (by decide)
            · exact Nat.lt_of_lt_of_le (show b.toNat < 2 ^ 7 by omega) (Nat.pow_le_pow_right (by decide) (by omega))

theorem take_num (n : Int) (r : List UInt8) (h0 : -9223372036854775808 ≤ n) (h1 : n ≤ 9223372036854775807) : takeZ 0 0 (numB n ++ r) = some (Lib.zigzag n, (numB n).length) := by
  have h := takeZ_uv (Lib.zigzag n + 1) (Lib.zigzag n) 0 0 r (by omega) (by omega) (by have := Lib.zigzag_lt h0 h1; omega) (by omega)
  simpa [numB] using h

theorem take_sound {l : List UInt8} {z k : Nat} (h : takeZ 0 0 l = some (z, k)) : z < 18446744073709551616 ∧ k ≤ l.length ∧ l.take k = numB (Lib.unzigzag z) := by
  obtain ⟨u, e1, _, e3, e4, _, e6⟩ := takeZ_sound l 0 0 z k (by omega) h
  simp at e1 e3 e4 e6
  subst e1
  exact ⟨e6, e3, by rw [e4]; unfold numB; rw [zig_unzig]⟩

theorem unzig_range {z : Nat} (h : z < 18446744073709551616) : -9223372036854775808 ≤ Lib.unzigzag z ∧ Lib.unzigzag z ≤ 9223372036854775807 := by
  unfold Lib.unzigzag; split <;> omega

/-- The number that bytes spell, seven bits each, the least first. -/
def valB : List UInt8 → Nat
  | [] => 0
  | b :: r => b.toNat % 128 + 128 * valB r

theorem valB_uv : ∀ (f z : Nat), z < f → valB (Lib.uvarint z) = z
  | 0, _, h => absurd h (Nat.not_lt_zero _)
  | f + 1, z, hf => by
    by_cases hs : z < 128
    · rw [Lib.uvarint_small hs]; simp only [valB, Lib.toUInt8_toNat (show z < 256 by omega)]; omega
    · rw [Lib.uvarint_big (by omega)]; simp only [valB, Lib.toUInt8_toNat (show z % 128 + 128 < 256 by omega), valB_uv f (z / 128) (by omega)]; omega

theorem uv_shape : ∀ (f z : Nat), z < f → ∃ pre c, Lib.uvarint z = pre ++ [c] ∧ c.toNat < 128 ∧ ∀ b ∈ pre, 128 ≤ b.toNat
  | 0, _, h => absurd h (Nat.not_lt_zero _)
  | f + 1, z, hf => by
    by_cases hs : z < 128
    · exact ⟨[], z.toUInt8, by rw [Lib.uvarint_small hs]; rfl, by rw [Lib.toUInt8_toNat (by omega)]; exact hs, by simp⟩
    · obtain ⟨pre, c, h1, h2, h3⟩ := uv_shape f (z / 128) (by omega)
      refine ⟨(z % 128 + 128).toUInt8 :: pre, c, by rw [Lib.uvarint_big (by omega), h1]; rfl, h2, ?_⟩
      intro b hb
      rcases List.mem_cons.1 hb with rfl | hb
      · rw [Lib.toUInt8_toNat (by omega)]; omega
      · exact h3 b hb

/-- Where a number's bytes end. -/
theorem first_end {l : List UInt8} {z k' k : Nat} (hl : l.take k' = Lib.uvarint z) (hk' : k' ≤ l.length) (hbig : ∀ b ∈ l.take k, 128 ≤ b.toNat) (hk : k ≤ l.length) :
    k < k' ∧ (∀ (h : k < l.length), l[k].toNat < 128 → k' = k + 1) := by
  obtain ⟨pre, c, h1, h2, h3⟩ := uv_shape (z + 1) z (by omega)
  rw [h1] at hl
  have hlen := congrArg List.length hl
  simp at hlen
  have hlen' : k' = pre.length + 1 := by omega
  have hat : ∀ j (hj : j < k'), l[j]'(by omega) = (pre ++ [c])[j]'(by simp; omega) := by
    intro j hj
    have := List.getElem_of_eq hl (i := j) (by simp; omega)
    rw [List.getElem_take] at this
    exact this
  refine ⟨?_, fun h hs => ?_⟩
  · rcases Nat.lt_or_ge k k' with h | h
    · exact h
    · exfalso
      have e := hat pre.length (by omega)
      rw [List.getElem_append_right (by omega)] at e
      simp at e
      have hm : c ∈ l.take k := by
        rw [← e]
        exact List.mem_take_iff_getElem.2 ⟨pre.length, by omega, rfl⟩
      have := hbig c hm
      omega
  · rcases Nat.lt_or_ge k pre.length with hlt | hge
    · exfalso
      have e := hat k (by omega)
      rw [List.getElem_append_left hlt] at e
      have := h3 pre[k] (List.getElem_mem _)
      rw [← e] at this
      omega
    · have : k < k' := by
        rcases Nat.lt_or_ge k k' with h | h
        · exact h
        · exfalso
          have e := hat pre.length (by omega)
          rw [List.getElem_append_right (by omega)] at e
          simp at e
          have hm : c ∈ l.take k := by
            rw [← e]
            exact List.mem_take_iff_getElem.2 ⟨pre.length, by omega, rfl⟩
          have := hbig c hm
          omega
      omega

/-- No end among the first ten bytes: no number. -/
theorem take_none {l : List UInt8} {k : Nat} (hbig : ∀ b ∈ l.take k, 128 ≤ b.toNat) (hk : k ≤ l.length) (he : 10 ≤ k ∨ l.length ≤ k) : takeZ 0 0 l = none := by
  cases h : takeZ 0 0 l with
  | none => rfl
  | some p =>
    obtain ⟨z, k'⟩ := p
    exfalso
    obtain ⟨h1, h2, h3⟩ := take_sound h
    have h4 := (first_end (z := Lib.zigzag (Lib.unzigzag z)) h3 h2 hbig hk).1
    have h5 : (numB (Lib.unzigzag z)).length ≤ 10 := numB_len (unzig_range h1).1 (unzig_range h1).2
    have h6 := congrArg List.length h3
    simp at h6
    omega

/-- The bytes up to the end are those of the number that they spell: it is read. -/
theorem take_yes {l : List UInt8} {k : Nat} {n : Int} (h0 : -9223372036854775808 ≤ n) (h1 : n ≤ 9223372036854775807) (hk : k ≤ l.length) (he : numB n = l.take k) : takeZ 0 0 l = some (Lib.zigzag n, k) := by
  have h := take_num n (l.drop k) h0 h1
  rw [he, List.take_append_drop] at h
  rw [h]
  simp
  omega

/-- Else none is. -/
theorem take_no {l : List UInt8} {k Z : Nat} (hbig : ∀ b ∈ l.take k, 128 ≤ b.toNat) (hk : k < l.length) (hs : l[k].toNat < 128) (hZ : Z = valB (l.take (k + 1)) % 18446744073709551616)
    (hne : numB (Lib.unzigzag Z) ≠ l.take (k + 1)) : takeZ 0 0 l = none := by
  cases h : takeZ 0 0 l with
  | none => rfl
  | some p =>
    obtain ⟨z, k'⟩ := p
    exfalso
    obtain ⟨h1, h2, h3⟩ := take_sound h
    have h4 := (first_end (z := Lib.zigzag (Lib.unzigzag z)) h3 h2 hbig (by omega)).2 hk hs
    subst h4
    have h5 := congrArg valB h3
    rw [show valB (numB (Lib.unzigzag z)) = z by unfold numB; rw [zig_unzig]; exact valB_uv (z + 1) z (by omega)] at h5
    rw [h5, Nat.mod_eq_of_lt h1] at hZ
    subst hZ
    exact hne h3.symm

theorem val_step {l : List UInt8} {k j : Nat} (hj : j < k) (hk : k ≤ l.length) : valB ((l.take k).drop j) = (l[j]'(by omega)).toNat % 128 + 128 * valB ((l.take k).drop (j + 1)) := by
  rw [List.drop_eq_getElem_cons (by simp; omega), valB, List.getElem_take]

theorem big_step {l : List UInt8} {k : Nat} (hbig : ∀ b ∈ l.take k, 128 ≤ b.toNat) (hk : k < l.length) (h : 128 ≤ l[k].toNat) : ∀ b ∈ l.take (k + 1), 128 ≤ b.toNat := by
  intro b hb
  rw [List.take_succ_eq_append_getElem hk, List.mem_append] at hb
  rcases hb with hb | hb
  · exact hbig b hb
  · simp at hb; subst hb; exact h

end Go.Proofs.YtfmhmokbbkliaaaGreat.Wir

/- The contracts of wire's numbers, as they are used: by their value, and nothing that was there changed. -/
namespace Go.Proofs.YtfmhmokbbkliaaaGreat.Wir
open Go.RowKit Go.Proofs.YtfmhmokbbkliaaaGreat

theorem bel_trans {a b c : World} (h : Below a.heap.size a b) (k : Below b.heap.size b c) : Below a.heap.size a c := h.trans (k.mono h.size)
theorem bel_drewN (w : World) (n : Nat) : Below w.heap.size w (w.drewN n) := below_drewN (Below.refl _ _) n

theorem takeNum_bel (s : ByteArray) (w : World) (hs : s.size ≤ maxLen) :
    Calls Tryz.prog 124 #[.string s] w fun e w' => e = .returned (takeNumV s) ∧ Below w.heap.size w w' :=
  (takeNum_any s w hs).mono fun e w' h => ⟨h.1, by obtain ⟨n, hn⟩ := h.2; subst hn; exact bel_drewN _ _⟩

theorem takeNum_val (s : ByteArray) (V : Value) (w : World) (hs : s.size ≤ maxLen) (hV : takeNumV s = V) :
    Calls Tryz.prog 124 #[.string s] w fun e w' => e = .returned V ∧ Below w.heap.size w w' := by
  subst hV; exact takeNum_bel s w hs

theorem num_val (n : Int) (l : List UInt8) (w : World) (h0 : -9223372036854775808 ≤ n) (h1 : n ≤ 9223372036854775807) (hl : numB n = l) :
    Calls Tryz.prog 35 #[.int .i64 n] w fun e w' => e = .returned (.string ⟨l.toArray⟩) ∧ Below w.heap.size w w' := by
  subst hl; exact num_any n w h0 h1

end Go.Proofs.YtfmhmokbbkliaaaGreat.Wir

/- The contracts of wire.Text, wire.takeCount and wire.TakeText. -/
namespace Go.Proofs.YtfmhmokbbkliaaaGreat.Wir
open Go.RowKit Go.Proofs.YtfmhmokbbkliaaaGreat

theorem ext_size (s : ByteArray) (a b : Nat) : (s.extract a b).size ≤ s.size := by
  rw [ByteArray.size_extract]; omega

theorem mk_size (l : List UInt8) : (⟨l.toArray⟩ : ByteArray).size = l.length := by
  show l.toArray.size = l.length
  exact List.size_toArray

/-- A number from 0 to most at the beginning, and what stands behind it. -/
def takeC (most : Nat) (s : ByteArray) : Option (Nat × ByteArray) := match takeZ 0 0 s.data.toList with
  | none => none
  | some (z, k) => if 0 ≤ Lib.unzigzag z ∧ Lib.unzigzag z ≤ most then some ((Lib.unzigzag z).toNat, s.extract k s.size) else none

/-- A text at the beginning, and what stands behind it. -/
def takeT (s : ByteArray) : Option (ByteArray × ByteArray) := match takeC 4000 s with
  | none => none
  | some (n, r) => if n ≤ r.size then some (r.extract 0 n, r.extract n r.size) else none

theorem takeC_yes {m n : Nat} {s r : ByteArray} (h : takeC m s = some (n, r)) : ∃ z k, takeZ 0 0 s.data.toList = some (z, k) ∧ Lib.unzigzag z = (n : Int) ∧ s.extract k s.size = r ∧ n ≤ m ∧ r.size ≤ s.size := by
  unfold takeC at h
  cases hT : takeZ 0 0 s.data.toList with
  | none => rw [hT] at h; cases h
  | some p =>
    obtain ⟨z, k⟩ := p
    rw [hT] at h
    simp only at h
    split at h
    · rename_i hc
      simp only [Option.some.injEq, Prod.mk.injEq] at h
      obtain ⟨rfl, rfl⟩ := h
      exact ⟨z, k, rfl, by omega, rfl, by omega, ext_size _ _ _⟩
    · cases h

theorem takeC_no {m : Nat} {s : ByteArray} (h : takeC m s = none) : takeZ 0 0 s.data.toList = none ∨ ∃ z k, takeZ 0 0 s.data.toList = some (z, k) ∧ (Lib.unzigzag z < 0 ∨ (m : Int) < Lib.unzigzag z) := by
  unfold takeC at h
  cases hT : takeZ 0 0 s.data.toList with
  | none => exact .inl rfl
  | some p =>
    obtain ⟨z, k⟩ := p
    rw [hT] at h
    simp only at h
    split at h
    · cases h
    · exact .inr ⟨z, k, rfl, by omega⟩

theorem takeT_yes {s t r : ByteArray} (h : takeT s = some (t, r)) : ∃ n q, takeC 4000 s = some (n, q) ∧ n ≤ q.size ∧ q.extract 0 n = t ∧ q.extract n q.size = r := by
  unfold takeT at h
  cases hT : takeC 4000 s with
  | none => rw [hT] at h; cases h
  | some p =>
    obtain ⟨n, q⟩ := p
    rw [hT] at h
    simp only at h
    split at h
    · rename_i hc
      simp only [Option.some.injEq, Prod.mk.injEq] at h
      exact ⟨n, q, rfl, hc, h.1, h.2⟩
    · cases h

theorem takeT_no {s : ByteArray} (h : takeT s = none) : takeC 4000 s = none ∨ ∃ n q, takeC 4000 s = some (n, q) ∧ q.size < n := by
  unfold takeT at h
  cases hT : takeC 4000 s with
  | none => exact .inl rfl
  | some p =>
    obtain ⟨n, q⟩ := p
    rw [hT] at h
    simp only at h
    split at h
    · cases h
    · exact .inr ⟨n, q, rfl, by omega⟩

/-- The bytes of a text. -/
def textB (s : ByteArray) : ByteArray := ⟨(numB s.size).toArray⟩ ++ s

set_option maxRecDepth 100000 in
set_option maxHeartbeats 400000 in
theorem text_yes (s : ByteArray) (w : World) (hs : s.size ≤ 4000) :
    Calls Tryz.prog 120 #[.string s] w fun e w' => e = .returned (.tuple #[.string (textB s), .int .i64 0]) ∧ Below w.heap.size w w' := by
  have hl := numB_len (n := (s.size : Int)) (by omega) (by omega)
  have ha := fun (w : World) => run_string_add_sum (P := Tryz.prog) w ⟨(numB s.size).toArray⟩ s (by rw [mk_size]; omega)
  go_enter Tryz.func120, Tryz.ntmps120
  go_wp2_with fail
  refine (num_any (s.size : Int) _ (by omega) (by omega)).mono ?_
  rintro e w1 ⟨rfl, b1⟩
  go_wp2
  go_ret2
  exact ⟨rfl, b1⟩

set_option maxHeartbeats 400000 in
theorem text_no (s : ByteArray) (w : World) (hs : 4000 < s.size) :
    Calls Tryz.prog 120 #[.string s] w fun e w' => e = .returned (.tuple #[.string ⟨#[]⟩, .int .i64 4]) ∧ Below w.heap.size w w' := by
  go_enter Tryz.func120, Tryz.ntmps120
  go_wp2
  go_ret2
  exact ⟨rfl, Below.refl _ _⟩

set_option maxRecDepth 100000 in
set_option maxHeartbeats 400000 in
theorem count_yes (s : ByteArray) (m n : Nat) (r : ByteArray) (w : World) (hs : s.size ≤ maxLen) (h : takeC m s = some (n, r)) :
    Calls Tryz.prog 122 #[.string s, .int .i64 m] w fun e w' => e = .returned (.tuple #[.int .i64 n, .string r, .int .i64 0]) ∧ Below w.heap.size w w' := by
  obtain ⟨z, k, h1, h2, h3, h4, h5⟩ := takeC_yes h
  have H1 : Hid (takeNumV s = .tuple #[.int .i64 n, .string r, .int .i64 0]) := by rw [← h2, ← h3]; exact takeNumV_yes h1
  clear h h1 h2 h3
  go_enter Tryz.func122, Tryz.ntmps122
  go_wp2_with fail
  refine (takeNum_val s _ _ hs H1.out).mono ?_
  rintro e w1 ⟨rfl, b1⟩
  go_wp2
  go_ret3
  exact ⟨rfl, b1⟩

set_option maxRecDepth 100000 in
set_option maxHeartbeats 400000 in
theorem count_no (s : ByteArray) (m : Nat) (w : World) (hs : s.size ≤ maxLen) (h : takeC m s = none) :
    Calls Tryz.prog 122 #[.string s, .int .i64 m] w fun e w' => e = .returned (.tuple #[.int .i64 0, .string ⟨#[]⟩, .int .i64 2]) ∧ Below w.heap.size w w' := by
  rcases takeC_no h with h1 | ⟨z, k, h1, h2⟩
  · have H1 : Hid _ := takeNumV_no h1
    clear h h1
    go_enter Tryz.func122, Tryz.ntmps122
    go_wp2_with fail
    refine (takeNum_val s _ _ hs H1.out).mono ?_
    rintro e w1 ⟨rfl, b1⟩
    go_wp2
    go_ret3
    exact ⟨rfl, b1⟩
  · have H1 : Hid _ := takeNumV_yes h1
    clear h h1
    generalize s.extract k s.size = r at *
    generalize Lib.unzigzag z = N at *
    rcases h2 with h2 | h2
    all_goals
      go_enter Tryz.func122, Tryz.ntmps122
      go_wp2_with fail
      refine (takeNum_val s _ _ hs H1.out).mono ?_
      rintro e w1 ⟨rfl, b1⟩
      go_wp2
      all_goals go_ret3
      all_goals exact ⟨rfl, b1⟩

set_option maxRecDepth 100000 in
set_option maxHeartbeats 400000 in
theorem takeText_yes (s t r : ByteArray) (w : World) (hs : s.size ≤ maxLen) (h : takeT s = some (t, r)) :
    Calls Tryz.prog 123 #[.string s] w fun e w' => e = .returned (.tuple #[.string t, .string r, .int .i64 0]) ∧ Below w.heap.size w w' := by
  obtain ⟨n, q, h1, h2, h3, h4⟩ := takeT_yes h
  subst h3 h4
  have hn : n ≤ 4000 := by obtain ⟨_, _, _, _, _, h, _⟩ := takeC_yes h1; exact h
  have hq : q.size ≤ s.size := by obtain ⟨_, _, _, _, _, _, h⟩ := takeC_yes h1; exact h
  have H1 : Hid (takeC 4000 s = some (n, q)) := h1
  have HS : Hid (s.size ≤ maxLen) := hs
  unfold maxLen at hs
  clear h h1
  go_enter Tryz.func123, Tryz.ntmps123
  go_wp2_with fail
  refine (count_yes s 4000 n q _ HS.out H1.out).mono ?_
  rintro e w1 ⟨rfl, b1⟩
  go_wp2
  refine wp_region_quiet_lit (by kernel_rfl) (by kernel_rfl) ?_
  repeat (first | go_big_quiet_step (fail) | quiet_step (fail))
  refine wpQuiet_nil ?_
  rintro _ ⟨nq, rfl⟩
  go_wp2
  go_ret3
  exact ⟨rfl, below_drewN b1 _⟩

set_option maxRecDepth 100000 in
set_option maxHeartbeats 400000 in
theorem takeText_no (s : ByteArray) (w : World) (hs : s.size ≤ maxLen) (h : takeT s = none) :
    Calls Tryz.prog 123 #[.string s] w fun e w' => e = .returned (.tuple #[.string ⟨#[]⟩, .string ⟨#[]⟩, .int .i64 2]) ∧ Below w.heap.size w w' := by
  rcases takeT_no h with h1 | ⟨n, q, h1, h2⟩
  · have H1 : Hid (takeC 4000 s = none) := h1
    clear h h1
    go_enter Tryz.func123, Tryz.ntmps123
    go_wp2_with fail
    refine (count_no s 4000 _ hs H1.out).mono ?_
    rintro e w1 ⟨rfl, b1⟩
    go_wp2
    go_ret3
    exact ⟨rfl, b1⟩
  · have H1 : Hid (takeC 4000 s = some (n, q)) := h1
    have hn : n ≤ 4000 := by obtain ⟨_, _, _, _, _, h, _⟩ := takeC_yes h1; exact h
    clear h h1
    go_enter Tryz.func123, Tryz.ntmps123
    go_wp2_with fail
    refine (count_yes s 4000 n q _ hs H1.out).mono ?_
    rintro e w1 ⟨rfl, b1⟩
    go_wp2
    go_ret3
    exact ⟨rfl, b1⟩

end Go.Proofs.YtfmhmokbbkliaaaGreat.Wir

/- Plain facts: a number and a text that were written are read as they were; what is read is what was written. -/
namespace Go.Proofs.YtfmhmokbbkliaaaGreat.Wir
open Go.WideShapes (bytes_inj)

theorem textB_data (s : ByteArray) : (textB s).data.toList = numB s.size ++ s.data.toList := by
  simp [textB, ByteArray.data_append]

theorem textB_len (s : ByteArray) (h : s.size ≤ 4000) : (textB s).data.toList.length ≤ 4010 := by
  rw [textB_data, List.length_append]
  have h1 := numB_len (n := (s.size : Int)) (by omega) (by omega)
  have h2 : s.data.toList.length = s.size := Array.length_toList
  omega

theorem size_list (s : ByteArray) : s.data.toList.length = s.size := Array.length_toList
theorem app_list (a b : ByteArray) : (a ++ b).data.toList = a.data.toList ++ b.data.toList := by simp [ByteArray.data_append]
theorem app_size (a b : ByteArray) : (a ++ b).size = a.size + b.size := by
  rw [← size_list, app_list, List.length_append, size_list, size_list]
theorem ext_behind (a b : ByteArray) (k : Nat) (h : k = a.size) : (a ++ b).extract k (a ++ b).size = b := by
  subst h
  refine bytes_inj ?_
  rw [Lib.extract_data, app_list, app_size, ← size_list a, List.drop_left]
  rw [List.take_of_length_le (by rw [size_list]; omega)]
theorem ext_ahead (a b : ByteArray) (k : Nat) (h : k = a.size) : (a ++ b).extract 0 k = a := by
  subst h
  refine bytes_inj ?_
  rw [Lib.extract_data, app_list, List.drop_zero, Nat.sub_zero, ← size_list a, List.take_left]

theorem take_back (n : Int) (r : ByteArray) (h0 : -9223372036854775808 ≤ n) (h1 : n ≤ 9223372036854775807) :
    takeNumV (⟨(numB n).toArray⟩ ++ r) = .tuple #[.int .i64 n, .string r, .int .i64 0] := by
  have h : takeZ 0 0 ((⟨(numB n).toArray⟩ ++ r : ByteArray)).data.toList = some (Lib.zigzag n, (numB n).length) := by
    rw [app_list]; exact take_num n _ h0 h1
  rw [takeNumV_yes h, unzig_zig, ext_behind _ _ _ (mk_size _).symm]

theorem takeC_back (m n : Nat) (r : ByteArray) (hn : n ≤ m) (hm : m ≤ 9223372036854775807) : takeC m (⟨(numB n).toArray⟩ ++ r) = some (n, r) := by
  have h : takeZ 0 0 ((⟨(numB n).toArray⟩ ++ r : ByteArray)).data.toList = some (Lib.zigzag n, (numB n).length) := by
    rw [app_list]; exact take_num n _ (by omega) (by omega)
  unfold takeC
  rw [h]
  simp only [unzig_zig]
  rw [if_pos (by omega), ext_behind _ _ _ (mk_size _).symm]
  rfl

theorem app_assoc (a b c : ByteArray) : a ++ b ++ c = a ++ (b ++ c) := by
  refine bytes_inj ?_
  simp only [app_list, List.append_assoc]

theorem takeT_back (s r : ByteArray) (hs : s.size ≤ 4000) : takeT (textB s ++ r) = some (s, r) := by
  unfold takeT textB
  rw [app_assoc, takeC_back 4000 s.size (s ++ r) hs (by omega)]
  simp only
  rw [if_pos (by rw [app_size]; omega), ext_ahead _ _ _ rfl, ext_behind _ _ _ rfl]

theorem ext_list (s : ByteArray) (k : Nat) : (s.extract k s.size).data.toList = s.data.toList.drop k := by
  rw [Lib.extract_data, List.take_of_length_le]
  rw [List.length_drop, size_list]; omega
theorem cut_list (s : ByteArray) (k : Nat) : (s.extract 0 k).data.toList = s.data.toList.take k := by
  rw [Lib.extract_data]; simp

theorem takeC_sound {m n : Nat} {s r : ByteArray} (h : takeC m s = some (n, r)) : s.data.toList = numB n ++ r.data.toList ∧ n ≤ m := by
  obtain ⟨z, k, h1, h2, h3, h4, _⟩ := takeC_yes h
  obtain ⟨_, _, h5⟩ := take_sound h1
  refine ⟨?_, h4⟩
  rw [← h2, ← h5, ← h3, ext_list, List.take_append_drop]

theorem takeT_sound {s t r : ByteArray} (h : takeT s = some (t, r)) : s.data.toList = (textB t).data.toList ++ r.data.toList ∧ t.size ≤ 4000 := by
  obtain ⟨n, q, h1, h2, h3, h4⟩ := takeT_yes h
  obtain ⟨h5, h6⟩ := takeC_sound h1
  have ht : t.data.toList = q.data.toList.take n := by rw [← h3]; exact cut_list q n
  have hr : r.data.toList = q.data.toList.drop n := by rw [← h4]; exact ext_list q n
  have hn : t.size = n := by rw [← size_list, ht, List.length_take, size_list]; omega
  refine ⟨?_, by omega⟩
  rw [textB_data, hn, h5, List.append_assoc, ht, hr, List.take_append_drop]

theorem text_prefix {s t : ByteArray} {a b : List UInt8} (h : (textB s).data.toList ++ a = (textB t).data.toList ++ b) : s = t ∧ a = b := by
  rw [textB_data, textB_data, List.append_assoc, List.append_assoc] at h
  obtain ⟨h1, h2⟩ := numB_prefix h
  have h3 : s.data.toList.length = t.data.toList.length := by rw [size_list, size_list]; omega
  obtain ⟨h4, h5⟩ := List.append_inj h2 h3
  exact ⟨bytes_inj h4, h5⟩

end Go.Proofs.YtfmhmokbbkliaaaGreat.Wir

/- The contracts of tabulariumref01.Num and tabulariumref01.TakeNum. -/
namespace Go.Proofs.YtfmhmokbbkliaaaGreat.Wir
open Go.RowKit Go.Proofs.YtfmhmokbbkliaaaGreat

set_option maxRecDepth 100000 in
set_option maxHeartbeats 1000000 in
theorem refNum_any (n : Int) (w : World) (h0 : -9223372036854775808 ≤ n) (h1 : n ≤ 9223372036854775807) :
    Calls Tryz.prog 90 #[.int .i64 n] w fun e w' => e = .returned (.string ⟨(numB n).toArray⟩) ∧ Below w.heap.size w w' := by
  obtain ⟨i0, hi, hz0, hz1, hz2⟩ := info_parts Tryz.infoByte
  have hL10 := numB_len h0 h1
  have hx : ∃ X : Int, X = ((Lib.zigzag n : Nat) : Int) ∧ (n < 0 → bits .xor .u64 IntKind.u64.max (IntKind.u64.wrap (IntKind.u64.wrap n * 2)) = X) ∧ (¬ n < 0 → n * 2 = X) :=
    ⟨_, rfl, fun h => Lib.zigzag_neg h0 h, fun h => (Lib.zigzag_nonneg (by omega)).symm⟩
  obtain ⟨X, hX, hX1, hX2⟩ := hx
  have HX : Hid (X = ((Lib.zigzag n : Nat) : Int)) := hX
  clear hX
  by_cases hneg : n < 0
  all_goals
    first
    | have e := hX1 hneg
    | have e := hX2 hneg
    have E0 : Hid _ := e
    clear e hX1 hX2
    go_enter Tryz.func90, Tryz.ntmps90
    go_wp2
    go_loopw [3, 4] (fun zv v wr => ∃ (pre : List UInt8) (zc : Nat), zv = .int .u64 zc ∧ Lib.uvarint (Lib.zigzag n) = pre ++ Lib.uvarint zc ∧ zc < 18446744073709551616 ∧ wr.ownsRow w.heap.size 5 1 v pre.length (Lib.byteCells pre) ∧ Below w.heap.size w wr) (fun zv _ _ => (intOf zv).toNat)
    case atStart => exact ⟨[], Lib.zigzag n, congrArg (Value.int .u64) (E0.out.trans HX.out), rfl, Lib.zigzag_lt h0 h1, World.ownsRow_nil _ _ _ _, Below.refl _ _⟩
    case round =>
      obtain ⟨pre, zc, rfl, hE, hzc, hown, hbel⟩ := hrel
      have E : Hid (Lib.uvarint (Lib.zigzag n) = pre ++ Lib.uvarint zc) := hE
      have hp9 : pre.length ≤ 9 := by
        have := Lib.uvarint_pos zc
        have h2 : (numB n).length = pre.length + (Lib.uvarint zc).length := by unfold numB; rw [hE]; simp
        omega
      have hsz := hbel.size
      clear hE E0 HX
      by_cases hlt : 128 ≤ zc
      · go_wp2_with (at_builtin; refine wpList_append_own _ rfl _ _ 113 rfl w.heap.size 5 i0 (.int .u8 0) 1 1 Tryz.underlying113 hi hz0 hz1 hz2 rfl (by decide) _ _ _ rfl (hown.alloc _) ⟨wr.heap.size, 0, none⟩ 1 1 [.int .u8 ((zc : Int) % 128 + 128)] rfl rfl ?c1 ?c2 ?c3 ?c4 ?c5 ?_)
        case c1 =>
          intro j u hj
          match j, hj with
          | 0, hj => simp at hj; subst hj; simp [Addr.add]
        case c2 => intro u hu; simp at hu; subst hu; rfl
        case c3 => unfold maxLen; omega
        case c4 => omega
        case c5 => simp; omega
        · intro v' w2 hown' hgrow _
          have hown2 : w2.ownsRow w.heap.size 5 1 v' (pre ++ [(zc % 128 + 128).toUInt8]).length (Lib.byteCells (pre ++ [(zc % 128 + 128).toUInt8])) := by
            rw [← byte_cell (a := zc % 128 + 128) (x := (zc : Int) % 128 + 128) pre (by omega) (by omega)]; simpa using hown'
          have hbel2 : Below w.heap.size w w2 := by
            refine (hbel.alloc hsz _).grown hgrow (by simp; omega) ?_
            intro k hk
            exact (hown.lt k hk).1
          have E2 : Hid (Lib.uvarint (Lib.zigzag n) = (pre ++ [(zc % 128 + 128).toUInt8]) ++ Lib.uvarint (zc / 128)) := by rw [E.out]; exact uv_round hlt pre
          clear hown' hgrow hown hbel E
          go_wp2
          go_roundw
          case rel => exact ⟨_, zc / 128, by go_num, E2.out, by omega, hown2, hbel2⟩
          case measure => simp [intOf]; omega
      · go_wp2_with (at_builtin; refine wpList_append_own _ rfl _ _ 113 rfl w.heap.size 5 i0 (.int .u8 0) 1 1 Tryz.underlying113 hi hz0 hz1 hz2 rfl (by decide) _ _ _ rfl (hown.alloc _) ⟨wr.heap.size, 0, none⟩ 1 1 [.int .u8 (zc : Int)] rfl rfl ?d1 ?d2 ?d3 ?d4 ?d5 ?_)
        case d1 =>
          intro j u hj
          match j, hj with
          | 0, hj => simp at hj; subst hj; simp [Addr.add]
        case d2 => intro u hu; simp at hu; subst hu; rfl
        case d3 => unfold maxLen; omega
        case d4 => omega
        case d5 => simp; omega
        · intro v' w2 hown' hgrow _
          rw [byte_cell pre (by omega) (rfl : (zc : Int) = ((zc : Nat) : Int))] at hown'
          have hbel2 : Below w.heap.size w w2 := by
            refine (hbel.alloc hsz _).grown hgrow (by simp; omega) ?_
            intro k hk
            exact (hown.lt k hk).1
          obtain ⟨g, cap, rfl, hn, hcells⟩ := own_cells hown' (by omega)
          have hcv := run_convert_bytes_back (P := Tryz.prog) w2 113 9 5 ⟨g, 0, none⟩ cap (pre ++ [zc.toUInt8]) Tryz.underlying113 Tryz.underlying5 Tryz.underlying9 hcells
          have E2 : Hid (pre ++ [zc.toUInt8] = numB n) := by
            have := E.out
            rw [Lib.uvarint_small (x := zc) (by omega)] at this
            exact this.symm
          generalize pre ++ [zc.toUInt8] = out at *
          clear hown' hgrow hown hbel E hcells hn
          go_wp2
          go_ret
          exact ⟨ret_str E2.out, hbel2⟩

end Go.Proofs.YtfmhmokbbkliaaaGreat.Wir
