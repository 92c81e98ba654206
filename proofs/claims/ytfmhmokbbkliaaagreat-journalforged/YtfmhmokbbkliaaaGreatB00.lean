/- Part 0 of the proof: WireBase. -/
import Derived.Lib.Strings
import Derived.Lib.VarintBits
import Derived.Lib.VarintDec
import Derived.Lib.VarintMem
import Derived.Lib.Zigzag
import Derived.WalkKit

/- Plain facts on the bytes of numbers (zig-zag, seven bits a byte): no program in it. -/
namespace Go.Proofs.YtfmhmokbbkliaaaGreat.Wir

/-- The bytes of a number. -/
def numB (n : Int) : List UInt8 := Lib.uvarint (Lib.zigzag n)

theorem unzig_odd (z : Int) (h0 : 0 ≤ z) (h1 : z < 18446744073709551616) (hz : z % 2 = 1) :
    RowKit.wrap64 (bits .xor .u64 IntKind.u64.max (z / 2)) = Lib.unzigzag z.toNat := by
  obtain ⟨k, rfl⟩ := Int.eq_ofNat_of_zero_le h0
  have e2 : IntKind.u64.max = ((2 ^ 64 - 1 : Nat) : Int) := by decide
  have e3 : ((k : Int) / 2) = ((k / 2 : Nat) : Int) := by omega
  rw [e2, e3, bits_xor_u64_nat _ _ (by decide) (by omega), Lib.xor_ones64 _ (by omega)]
  unfold Lib.unzigzag RowKit.wrap64
  rw [if_neg (by simp; omega)]
  simp
  omega

theorem unzig_even (z : Int) (h0 : 0 ≤ z) (h1 : z < 18446744073709551616) (hz : z % 2 = 0) :
    z / 2 = Lib.unzigzag z.toNat := by
  obtain ⟨k, rfl⟩ := Int.eq_ofNat_of_zero_le h0
  unfold Lib.unzigzag
  rw [if_pos (by simp; omega)]
  simp

theorem unzig_zig (n : Int) : Lib.unzigzag (Lib.zigzag n) = n := by
  unfold Lib.unzigzag Lib.zigzag
  split <;> split <;> omega

theorem zig_unzig (z : Nat) : Lib.zigzag (Lib.unzigzag z) = z := by
  unfold Lib.unzigzag Lib.zigzag
  split <;> split <;> omega

theorem zig_inj {n m : Int} (h : Lib.zigzag n = Lib.zigzag m) : n = m := by
  have := congrArg Lib.unzigzag h
  rwa [unzig_zig, unzig_zig] at this

theorem numB_len {n : Int} (h0 : -9223372036854775808 ≤ n) (h1 : n ≤ 9223372036854775807) : (numB n).length ≤ 10 :=
  Lib.uvarint_length64 (Lib.zigzag_lt h0 h1)
theorem numB_pos (n : Int) : 1 ≤ (numB n).length := Lib.uvarint_pos _

/-- One round of Num: the byte that goes out, and what is left. -/
theorem uv_round {z : Nat} (h : 128 ≤ z) (pre : List UInt8) : pre ++ Lib.uvarint z = (pre ++ [(z % 128 + 128).toUInt8]) ++ Lib.uvarint (z / 128) := by
  rw [Lib.uvarint_big h]; simp

theorem byte_or (z : Nat) : bits .or .u8 ((z : Int) % 256) 128 = ((z % 128 + 128 : Nat) : Int) := by
  rw [Lib.u8_or128_any _ (by omega) (by omega)]
  omega

theorem byte_cell (pre : List UInt8) {a : Nat} {x : Int} (h : a < 256) (hx : x = (a : Int)) : Lib.byteCells pre ++ [Value.int .u8 x] = Lib.byteCells (pre ++ [a.toUInt8]) := by
  rw [hx, Lib.byteCells_snoc pre h]

theorem wrap_small {z : Nat} (h : z < 128) : IntKind.u8.wrap (z : Int) = (z : Int) := by rw [IntKind.wrap_u8]; omega

theorem byteCells_len (l : List UInt8) : (Lib.byteCells l).length = l.length := by simp [Lib.byteCells]

/-- What is owned, as the cells of a string's bytes. -/
theorem own_cells {w : World} {base : Nat} {e : TypeId} {v : Value} {n : Nat} {l : List UInt8} (h : w.ownsRow base e 1 v n (Lib.byteCells l)) (hn : 0 < n) :
    ∃ g cap, v = .slice (some ⟨g, 0, none⟩) l.length cap ∧ n = l.length ∧ ∀ j (hj : j < l.length), w.cell? ((⟨g, 0, none⟩ : Addr).add j) = some (.int .u8 (l[j].toNat : Int)) := by
  have hlen := h.1
  rw [byteCells_len] at hlen
  have hl : n = l.length := by omega
  subst hl
  rcases h.2 with ⟨_, h0⟩ | ⟨g, cap, cur, rfl, _⟩
  · omega
  · refine ⟨g, cap, rfl, rfl, fun j hj => ?_⟩
    have := h.cells (g := g) rfl j (.int .u8 (l[j].toNat : Int)) (by simp [Lib.byteCells, hj])
    exact this

/-- No number's bytes are the beginning of another one's. -/
theorem uv_prefix : ∀ (f a b : Nat) (r r' : List UInt8), a < f → Lib.uvarint a ++ r = Lib.uvarint b ++ r' → a = b ∧ r = r'
  | 0, _, _, _, _, h, _ => absurd h (Nat.not_lt_zero _)
  | f + 1, a, b, r, r', hf, h => by
    by_cases ha : a < 128 <;> by_cases hb : b < 128
    · rw [Lib.uvarint_small ha, Lib.uvarint_small hb] at h
      simp only [List.cons_append, List.nil_append, List.cons.injEq] at h
      have h1 := congrArg UInt8.toNat h.1
      rw [Lib.toUInt8_toNat (by omega), Lib.toUInt8_toNat (by omega)] at h1
      exact ⟨h1, h.2⟩
    · rw [Lib.uvarint_small ha, Lib.uvarint_big (by omega)] at h
      simp only [List.cons_append, List.nil_append, List.cons.injEq] at h
      have h1 := congrArg UInt8.toNat h.1
      rw [Lib.toUInt8_toNat (by omega), Lib.toUInt8_toNat (by omega)] at h1
      omega
    · rw [Lib.uvarint_small hb, Lib.uvarint_big (by omega)] at h
      simp only [List.cons_append, List.nil_append, List.cons.injEq] at h
      have h1 := congrArg UInt8.toNat h.1
      rw [Lib.toUInt8_toNat (by omega), Lib.toUInt8_toNat (by omega)] at h1
      omega
    · rw [Lib.uvarint_big (x := a) (by omega), Lib.uvarint_big (x := b) (by omega)] at h
      simp only [List.cons_append, List.cons.injEq] at h
      have h1 := congrArg UInt8.toNat h.1
      rw [Lib.toUInt8_toNat (by omega), Lib.toUInt8_toNat (by omega)] at h1
      obtain ⟨h2, h3⟩ := uv_prefix f (a / 128) (b / 128) r r' (by omega) h.2
      exact ⟨by omega, h3⟩

theorem numB_prefix {n m : Int} {r r' : List UInt8} (h : numB n ++ r = numB m ++ r') : n = m ∧ r = r' := by
  obtain ⟨h1, h2⟩ := uv_prefix (Lib.zigzag n + 1) _ _ r r' (by omega) h
  exact ⟨zig_inj h1, h2⟩

theorem numB_apart {n m : Int} (h : n ≠ m) (k : Nat) (hk : k = min (numB n).length (numB m).length) : (numB n).take k ≠ (numB m).take k := by
  intro he
  by_cases hle : (numB n).length ≤ (numB m).length
  · rw [show k = (numB n).length by omega, List.take_length] at he
    have h2 : numB n ++ (numB m).drop (numB n).length = numB m ++ [] := by
      rw [List.append_nil]
      exact (congrArg (· ++ (numB m).drop (numB n).length) he).trans (List.take_append_drop _ _)
    exact h (numB_prefix h2).1
  · rw [show k = (numB m).length by omega, List.take_length] at he
    have h2 : numB n ++ [] = numB m ++ (numB n).drop (numB m).length := by
      rw [List.append_nil]
      exact ((congrArg (· ++ (numB n).drop (numB m).length) he.symm).trans (List.take_append_drop _ _)).symm
    exact h (numB_prefix h2).1

theorem cut_toList (l : List UInt8) (k : Nat) : ((⟨l.toArray⟩ : ByteArray).extract 0 k).toList = l.take k := by
  rw [Lib.extract_toList]; simp

end Go.Proofs.YtfmhmokbbkliaaaGreat.Wir
