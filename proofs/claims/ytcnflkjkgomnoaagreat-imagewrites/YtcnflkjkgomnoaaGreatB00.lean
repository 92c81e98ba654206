/- Part 0 of the proof: SumM, RowPlain. -/
import Derived.WalkKit
set_option maxRecDepth 100000
set_option maxHeartbeats 8000000
namespace Go.Proofs.YtcnflkjkgomnoaaGreat.Smm
open Go.RowKit
def cPoly : BitVec 32 := 3988292384#32
def c1 (v : BitVec 32) : BitVec 32 := if v.getLsbD 0 then (v >>> 1) ^^^ cPoly else v >>> 1
def cN : Nat → BitVec 32 → BitVec 32
  | 0, v => v
  | n + 1, v => cN n (c1 v)
def byteV (b : UInt8) : BitVec 32 := BitVec.ofNat 32 b.toNat
def crcFrom (v : BitVec 32) (l : List UInt8) : BitVec 32 := l.foldl (fun v b => cN 8 (v ^^^ byteV b)) v
def crc (l : List UInt8) : BitVec 32 := ~~~ (crcFrom (BitVec.allOnes 32) l)
theorem crcFrom_append (v : BitVec 32) (l m : List UInt8) : crcFrom v (l ++ m) = crcFrom (crcFrom v l) m := by unfold crcFrom; rw [List.foldl_append]
theorem crcFrom_snoc (v : BitVec 32) (l : List UInt8) (b : UInt8) : crcFrom v (l ++ [b]) = cN 8 (crcFrom v l ^^^ byteV b) := by rw [crcFrom_append]; rfl
def zV (v : BitVec 32) : Int := (v.toNat : Int)
theorem zV_nonneg (v : BitVec 32) : 0 ≤ zV v := by unfold zV; omega
theorem zV_lt (v : BitVec 32) : zV v < 4294967296 := by unfold zV; have := v.isLt; omega
theorem ofInt_zV (v : BitVec 32) : BitVec.ofInt 32 (zV v) = v := by
  unfold zV; rw [BitVec.ofInt_natCast]
  simp
theorem wrap_zV (v : BitVec 32) : IntKind.u32.wrap (v.toNat : Int) = zV v := by
  have := v.isLt
  unfold zV; show ((v.toNat : Int)) % 4294967296 = _
  omega
theorem bits_xor_zV (a b : BitVec 32) : bits .xor .u32 (zV a) (zV b) = zV (a ^^^ b) := by
  show IntKind.u32.wrap ((BitVec.ofInt 32 (zV a) ^^^ BitVec.ofInt 32 (zV b)).toNat : Int) = _
  rw [ofInt_zV, ofInt_zV]; exact wrap_zV _
theorem bits_and1_zV (a : BitVec 32) : bits .and .u32 (zV a) 1 = if a.getLsbD 0 then 1 else 0 := by
  show IntKind.u32.wrap ((BitVec.ofInt 32 (zV a) &&& BitVec.ofInt 32 1).toNat : Int) = _
  rw [ofInt_zV, wrap_zV]
  have : BitVec.ofInt 32 1 = 1#32 := rfl
  rw [this]
  unfold zV; rw [BitVec.toNat_and]
  have h1 : (1#32).toNat = 1 := rfl
  rw [h1, Nat.and_one_is_mod]
  have h2 : a.getLsbD 0 = decide (a.toNat % 2 = 1) := by
    rw [BitVec.getLsbD, Nat.testBit_zero]
  rw [h2]
  by_cases h : a.toNat % 2 = 1
  · simp [h]
  · have : a.toNat % 2 = 0 := by omega
    simp [this]
theorem bit0_mod (a : BitVec 32) : a.getLsbD 0 = decide (zV a % (2 : Int) = 1) := by
  rw [BitVec.getLsbD, Nat.testBit_zero]
  unfold zV; by_cases h : a.toNat % 2 = 1
  · have : (a.toNat : Int) % 2 = 1 := by omega
    simp [h, this]
  · have : ¬ (a.toNat : Int) % 2 = 1 := by omega
    simp [h, this]
theorem half_zV (a : BitVec 32) : zV a / (2 : Int) = zV (a >>> 1) := by
  unfold zV; rw [BitVec.toNat_ushiftRight, Nat.shiftRight_eq_div_pow, Nat.pow_one]
  omega
theorem zV_poly : zV cPoly = 3988292384 := rfl
theorem zV_byte (b : UInt8) : zV (byteV b) = (b.toNat : Int) := by
  have := UInt8.toNat_lt b
  unfold zV byteV; rw [BitVec.toNat_ofNat, Nat.mod_eq_of_lt (by omega)]
theorem not_bits (a : BitVec 32) : bits .xor .u32 IntKind.u32.max (zV a) = zV (~~~ a) := by
  have h : IntKind.u32.max = zV (BitVec.allOnes 32) := rfl
  rw [h, bits_xor_zV]
  congr 1
def sumZ (l : List UInt8) : Int := zV (crc l)
end Go.Proofs.YtcnflkjkgomnoaaGreat.Smm
namespace Go.Proofs.YtcnflkjkgomnoaaGreat
open Go.RowKit
structure Ints (w : World) (k : IntKind) (a : Option Addr) (b off : Nat) (zs : List Int) : Prop where
  addr : 0 < zs.length → a = some ⟨b, off, none⟩
  cell : ∀ j (hj : j < zs.length), w.cell? ⟨b, off + j, none⟩ = some (.int k zs[j])
theorem Ints.lt {w : World} {k : IntKind} {a : Option Addr} {b off : Nat} {zs : List Int} (h : Ints w k a b off zs) (hp : 0 < zs.length) : b < w.heap.size :=
  World.block_lt_of_cell? _ _ (h.cell 0 hp)
theorem Ints.below {w w' : World} {k : IntKind} {a : Option Addr} {b off : Nat} {zs : List Int} (h : Ints w k a b off zs) (hb : Below w.heap.size w w') : Ints w' k a b off zs :=
  ⟨h.addr, fun j hj => (hb.cell (p := ⟨b, off + j, none⟩) (h.lt (by omega))).trans (h.cell j hj)⟩
structure Strs (w : World) (a : Option Addr) (b off : Nat) (ss : List ByteArray) : Prop where
  addr : 0 < ss.length → a = some ⟨b, off, none⟩
  cell : ∀ j (hj : j < ss.length), w.cell? ⟨b, off + j, none⟩ = some (.string ss[j])
  small : ∀ s ∈ ss, s.size ≤ maxLen
  len : ss.length ≤ maxLen
theorem Strs.lt {w : World} {a : Option Addr} {b off : Nat} {ss : List ByteArray} (h : Strs w a b off ss) (hp : 0 < ss.length) : b < w.heap.size :=
  World.block_lt_of_cell? _ _ (h.cell 0 hp)
theorem Strs.below {w w' : World} {a : Option Addr} {b off : Nat} {ss : List ByteArray} (h : Strs w a b off ss) (hb : Below w.heap.size w w') : Strs w' a b off ss :=
  ⟨h.addr, fun j hj => (hb.cell (p := ⟨b, off + j, none⟩) (h.lt (by omega))).trans (h.cell j hj), h.small, h.len⟩
end Go.Proofs.YtcnflkjkgomnoaaGreat
