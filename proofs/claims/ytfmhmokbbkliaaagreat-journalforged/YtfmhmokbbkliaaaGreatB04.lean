/- Part 4 of the proof: RowPlain, SumM. -/
import Derived.WalkKit

/- Slices of numbers and of texts that lie in memory. No program in it. -/
namespace Go.Proofs.YtfmhmokbbkliaaaGreat
open Go.RowKit

/-- A slice of numbers that lies in memory: the numbers zs. -/
structure Ints (w : World) (k : IntKind) (a : Option Addr) (b off : Nat) (zs : List Int) : Prop where
  addr : 0 < zs.length → a = some ⟨b, off, none⟩
  cell : ∀ j (hj : j < zs.length), w.cell? ⟨b, off + j, none⟩ = some (.int k zs[j])

theorem Ints.lt {w : World} {k : IntKind} {a : Option Addr} {b off : Nat} {zs : List Int} (h : Ints w k a b off zs) (hp : 0 < zs.length) : b < w.heap.size :=
  World.block_lt_of_cell? _ _ (h.cell 0 hp)
theorem Ints.below {w w' : World} {k : IntKind} {a : Option Addr} {b off : Nat} {zs : List Int} (h : Ints w k a b off zs) (hb : Below w.heap.size w w') : Ints w' k a b off zs :=
  ⟨h.addr, fun j hj => (hb.cell (p := ⟨b, off + j, none⟩) (h.lt (by omega))).trans (h.cell j hj)⟩

def intCells (k : IntKind) (zs : List Int) : List Value := zs.map (.int k)
theorem intCells_len (k : IntKind) (zs : List Int) : (intCells k zs).length = zs.length := by simp [intCells]
theorem intCells_set (k : IntKind) (zs : List Int) (j : Nat) (z : Int) : (intCells k zs).set j (.int k z) = intCells k (zs.set j z) := by simp [intCells, List.map_set]

theorem own_ints {w : World} {base : Nat} {e : TypeId} {v : Value} {n : Nat} {k : IntKind} {zs : List Int} (h : w.ownsRow base e 1 v n (intCells k zs)) :
    n = zs.length ∧ ∃ a cap b, v = .slice a zs.length cap ∧ Ints w k a b 0 zs ∧ (0 < zs.length → base ≤ b) := by
  have hlen := h.1
  rw [intCells_len] at hlen
  have hl : n = zs.length := by omega
  subst hl
  refine ⟨rfl, ?_⟩
  rcases h.2 with ⟨rfl, h0⟩ | ⟨g, cap, cur, rfl, hb, _⟩
  · refine ⟨none, 0, 0, by rw [h0], ⟨fun hp => by omega, fun j hj => by omega⟩, fun hp => by omega⟩
  · refine ⟨some ⟨g, 0, none⟩, cap, g, rfl, ⟨fun _ => rfl, fun j hj => ?_⟩, fun _ => hb⟩
    have := h.cells (g := g) rfl j (.int k zs[j]) (by simp [intCells, hj])
    rw [Addr.add_lit] at this
    exact this

/-- A slice of strings that lies in memory: the strings ss. -/
structure Strs (w : World) (a : Option Addr) (b off : Nat) (ss : List ByteArray) : Prop where
  addr : 0 < ss.length → a = some ⟨b, off, none⟩
  cell : ∀ j (hj : j < ss.length), w.cell? ⟨b, off + j, none⟩ = some (.string ss[j])
  small : ∀ s ∈ ss, s.size ≤ maxLen
  len : ss.length ≤ maxLen

theorem Strs.lt {w : World} {a : Option Addr} {b off : Nat} {ss : List ByteArray} (h : Strs w a b off ss) (hp : 0 < ss.length) : b < w.heap.size :=
  World.block_lt_of_cell? _ _ (h.cell 0 hp)
theorem Strs.below {w w' : World} {a : Option Addr} {b off : Nat} {ss : List ByteArray} (h : Strs w a b off ss) (hb : Below w.heap.size w w') : Strs w' a b off ss :=
  ⟨h.addr, fun j hj => (hb.cell (p := ⟨b, off + j, none⟩) (h.lt (by omega))).trans (h.cell j hj), h.small, h.len⟩

end Go.Proofs.YtfmhmokbbkliaaaGreat

/- Plain: CRC-32 on words of 32 bits: it is linear, and each step can be undone; so a burst of at most four bytes changes it. No program in it. -/
namespace Go.Proofs.YtfmhmokbbkliaaaGreat.Smm
open Go.RowKit

def cPoly : BitVec 32 := 3988292384#32
/-- One bit moved out. -/
def c1 (v : BitVec 32) : BitVec 32 := if v.getLsbD 0 then (v >>> 1) ^^^ cPoly else v >>> 1
def cN : Nat → BitVec 32 → BitVec 32
  | 0, v => v
  | n + 1, v => cN n (c1 v)
def byteV (b : UInt8) : BitVec 32 := BitVec.ofNat 32 b.toNat
def crcFrom (v : BitVec 32) (l : List UInt8) : BitVec 32 := l.foldl (fun v b => cN 8 (v ^^^ byteV b)) v
/-- The sum of some bytes. -/
def crc (l : List UInt8) : BitVec 32 := ~~~ (crcFrom (BitVec.allOnes 32) l)

theorem c1_bit (v : BitVec 32) (i : Nat) : (c1 v).getLsbD i = (v.getLsbD (i + 1) ^^ (v.getLsbD 0 && cPoly.getLsbD i)) := by
  unfold c1
  split
  · rename_i h
    rw [BitVec.getLsbD_xor, BitVec.getLsbD_ushiftRight, h, Nat.add_comm 1 i, Bool.true_and]
  · rename_i h
    have h' : v.getLsbD 0 = false := by simpa using h
    rw [BitVec.getLsbD_ushiftRight, h', Nat.add_comm 1 i]; simp

theorem c1_xor (a b : BitVec 32) : c1 (a ^^^ b) = c1 a ^^^ c1 b := by
  apply BitVec.eq_of_getLsbD_eq
  intro i _
  rw [BitVec.getLsbD_xor, c1_bit, c1_bit, c1_bit, BitVec.getLsbD_xor, BitVec.getLsbD_xor]
  cases a.getLsbD (i + 1) <;> cases b.getLsbD (i + 1) <;> cases a.getLsbD 0 <;> cases b.getLsbD 0 <;> cases cPoly.getLsbD i <;> rfl

theorem c1_zero {v : BitVec 32} (h : c1 v = 0#32) : v = 0#32 := by
  have hb : ∀ i, (v.getLsbD (i + 1) ^^ (v.getLsbD 0 && cPoly.getLsbD i)) = false := fun i => by rw [← c1_bit, h]; simp
  have h31 := hb 31
  have ht : cPoly.getLsbD 31 = true := by decide
  have hu : v.getLsbD 32 = false := BitVec.getLsbD_of_ge _ _ (by omega)
  rw [ht, hu] at h31
  have h0 : v.getLsbD 0 = false := by simpa using h31
  apply BitVec.eq_of_getLsbD_eq
  intro i _
  match i with
  | 0 => rw [h0]; simp
  | j + 1 => have := hb j; rw [h0] at this; simpa using this

theorem cN_xor : ∀ (n : Nat) (a b : BitVec 32), cN n (a ^^^ b) = cN n a ^^^ cN n b
  | 0, _, _ => rfl
  | n + 1, a, b => by show cN n (c1 (a ^^^ b)) = _; rw [c1_xor, cN_xor n]; rfl

theorem cN_zero : ∀ (n : Nat) {v : BitVec 32}, cN n v = 0#32 → v = 0#32
  | 0, _, h => h
  | n + 1, _, h => c1_zero (cN_zero n h)

theorem xor_eq_zero {a b : BitVec 32} (h : a ^^^ b = 0#32) : a = b := by
  have : a ^^^ b ^^^ b = 0#32 ^^^ b := by rw [h]
  simpa [BitVec.xor_assoc] using this

theorem cN_inj {n : Nat} {a b : BitVec 32} (h : cN n a = cN n b) : a = b := by
  refine xor_eq_zero (cN_zero n ?_)
  rw [cN_xor, h]; simp

theorem crcFrom_cons (v : BitVec 32) (b : UInt8) (l : List UInt8) : crcFrom v (b :: l) = crcFrom (cN 8 (v ^^^ byteV b)) l := rfl
theorem crcFrom_append (v : BitVec 32) (l m : List UInt8) : crcFrom v (l ++ m) = crcFrom (crcFrom v l) m := by unfold crcFrom; rw [List.foldl_append]
theorem crcFrom_snoc (v : BitVec 32) (l : List UInt8) (b : UInt8) : crcFrom v (l ++ [b]) = cN 8 (crcFrom v l ^^^ byteV b) := by rw [crcFrom_append]; rfl

theorem crcFrom_inj : ∀ (l : List UInt8) {a b : BitVec 32}, crcFrom a l = crcFrom b l → a = b
  | [], _, _, h => h
  | x :: l, a, b, h => by
    have h1 := cN_inj (crcFrom_inj l h)
    have h2 : a ^^^ byteV x ^^^ byteV x = b ^^^ byteV x ^^^ byteV x := by rw [h1]
    simpa [BitVec.xor_assoc] using h2

/-- Nothing from bit n on. -/
def Low (n : Nat) (x : BitVec 32) : Prop := ∀ i, n ≤ i → x.getLsbD i = false

theorem c1_shl {x : BitVec 32} (h : Low 31 x) : c1 (x <<< 1) = x := by
  apply BitVec.eq_of_getLsbD_eq
  intro i hi
  rw [c1_bit]
  by_cases h1 : i = 31
  · subst h1
    rw [h 31 (by omega), BitVec.getLsbD_of_ge (x <<< 1) (31 + 1) (by omega)]
    simp
  · simp
    intro h2; omega

theorem low_shl {n k : Nat} {x : BitVec 32} (h : Low n x) : Low (n + k) (x <<< k) := by
  intro i hi
  rw [BitVec.getLsbD_shiftLeft, h (i - k) (by omega)]; simp

theorem cN_shl : ∀ (k : Nat) {x : BitVec 32}, Low (32 - k) x → k ≤ 32 → cN k (x <<< k) = x
  | 0, x, _, _ => by simp [cN]
  | k + 1, x, h, hk => by
    show cN k (c1 (x <<< (k + 1))) = x
    rw [BitVec.shiftLeft_add, c1_shl (fun i hi => low_shl (k := k) h i (by omega))]
    exact cN_shl k (fun i hi => h i (by omega)) (by omega)

theorem byteV_low (b : UInt8) : Low 8 (byteV b) := by
  intro i hi
  unfold byteV
  rw [BitVec.getLsbD_ofNat, Nat.testBit_lt_two_pow (Nat.lt_of_lt_of_le (UInt8.toNat_lt b) (Nat.pow_le_pow_right (by omega) hi))]
  simp

theorem byteV_inj {a b : UInt8} (h : byteV a = byteV b) : a = b := by
  have h1 : (byteV a).toNat = (byteV b).toNat := by rw [h]
  unfold byteV at h1
  rw [BitVec.toNat_ofNat, BitVec.toNat_ofNat, Nat.mod_eq_of_lt (by have := UInt8.toNat_lt a; omega), Nat.mod_eq_of_lt (by have := UInt8.toNat_lt b; omega)] at h1
  exact UInt8.toNat_inj.1 h1

theorem low_xor {n : Nat} {a b : BitVec 32} (ha : Low n a) (hb : Low n b) : Low n (a ^^^ b) := fun i hi => by rw [BitVec.getLsbD_xor, ha i hi, hb i hi]; rfl

theorem burst : ∀ (m m' : List UInt8) (v v' : BitVec 32), m.length = m'.length → m.length ≤ 4 → crcFrom v m = crcFrom v' m' → Low (8 * m.length) (v ^^^ v') ∧ (v = v' → m = m')
  | [], [], v, v', _, _, h => ⟨fun i _ => by have : v = v' := h; rw [this]; simp, fun _ => rfl⟩
  | b :: m, b' :: m', v, v', hl, h4, h => by
    have hl' : m.length = m'.length := by simpa using hl
    have h3 : m.length ≤ 3 := by simp at h4; omega
    obtain ⟨i1, i2⟩ := burst m m' _ _ hl' (by omega) h
    have e : cN 8 (v ^^^ byteV b) ^^^ cN 8 (v' ^^^ byteV b') = cN 8 ((v ^^^ v') ^^^ (byteV b ^^^ byteV b')) := by
      rw [← cN_xor]; congr 1
      apply BitVec.eq_of_getLsbD_eq; intro i _
      simp only [BitVec.getLsbD_xor]
      cases v.getLsbD i <;> cases v'.getLsbD i <;> cases (byteV b).getLsbD i <;> cases (byteV b').getLsbD i <;> rfl
    generalize hD : cN 8 (v ^^^ byteV b) ^^^ cN 8 (v' ^^^ byteV b') = D at i1 e
    have hlow24 : Low 24 D := fun i hi => i1 i (by omega)
    have e2 : D <<< 8 = (v ^^^ v') ^^^ (byteV b ^^^ byteV b') := by
      refine cN_inj (n := 8) ?_
      rw [cN_shl 8 (fun i hi => hlow24 i (by omega)) (by omega)]; exact e
    have hbb : Low 8 (byteV b ^^^ byteV b') := low_xor (byteV_low b) (byteV_low b')
    have e3 : v ^^^ v' = D <<< 8 ^^^ (byteV b ^^^ byteV b') := by rw [e2, BitVec.xor_assoc, BitVec.xor_self, BitVec.xor_zero]
    refine ⟨?_, ?_⟩
    · rw [e3]
      refine low_xor (fun i hi => low_shl (k := 8) i1 i ?_) (fun i hi => hbb i ?_)
      · simp at hi; omega
      · simp at hi; omega
    · intro hv
      subst hv
      rw [BitVec.xor_self, BitVec.zero_xor] at e2
      have hbz : byteV b ^^^ byteV b' = 0#32 := by
        apply BitVec.eq_of_getLsbD_eq; intro i _
        by_cases hi : 8 ≤ i
        · rw [hbb i hi]; simp
        · rw [← e2, BitVec.getLsbD_shiftLeft]; simp; omega
      have hb := byteV_inj (xor_eq_zero hbz)
      rw [hbz] at e2
      have hDz : D = 0#32 := by
        apply BitVec.eq_of_getLsbD_eq; intro i hi
        by_cases h8 : 24 ≤ i
        · rw [hlow24 i h8]; simp
        · have := congrArg (fun x => x.getLsbD (i + 8)) e2
          simp [BitVec.getLsbD_shiftLeft] at this
          rw [this (by omega)]; simp
      rw [hb, i2 (xor_eq_zero (hD.trans hDz))]

/-- Two lists of bytes that are unlike in at most four bytes side by side have unlike sums. -/
theorem crc_burst (p m m' q : List UInt8) (hl : m.length = m'.length) (h4 : m.length ≤ 4) (h : crc (p ++ m ++ q) = crc (p ++ m' ++ q)) : m = m' := by
  have h1 : crcFrom (BitVec.allOnes 32) (p ++ m ++ q) = crcFrom (BitVec.allOnes 32) (p ++ m' ++ q) := by
    have := congrArg (fun x => ~~~ x) h
    simpa [crc] using this
  rw [crcFrom_append, crcFrom_append, crcFrom_append, crcFrom_append] at h1
  exact (burst m m' _ _ hl h4 (crcFrom_inj q h1)).2 rfl

/-! ## As the program's numbers. -/
def zV (v : BitVec 32) : Int := (v.toNat : Int)
theorem zV_nonneg (v : BitVec 32) : 0 ≤ zV v := by unfold zV; omega
theorem zV_lt (v : BitVec 32) : zV v < 4294967296 := by unfold zV; have := v.isLt; omega
theorem zV_inj {a b : BitVec 32} (h : zV a = zV b) : a = b := by unfold zV at h; exact BitVec.eq_of_toNat_eq (by omega)

theorem ofInt_zV (v : BitVec 32) : BitVec.ofInt 32 (zV v) = v := by
  unfold zV
  rw [BitVec.ofInt_natCast]
  simp

theorem wrap_zV (v : BitVec 32) : IntKind.u32.wrap (v.toNat : Int) = zV v := by
  have := v.isLt
  unfold zV
  show ((v.toNat : Int)) % 4294967296 = _
  omega

theorem bits_xor_zV (a b : BitVec 32) : bits .xor .u32 (zV a) (zV b) = zV (a ^^^ b) := by
  show IntKind.u32.wrap ((BitVec.ofInt 32 (zV a) ^^^ BitVec.ofInt 32 (zV b)).toNat : Int) = _
  rw [ofInt_zV, ofInt_zV]; exact wrap_zV _

theorem bits_and1_zV (a : BitVec 32) : bits .and .u32 (zV a) 1 = if a.getLsbD 0 then 1 else 0 := by
  show IntKind.u32.wrap ((BitVec.ofInt 32 (zV a) &&& BitVec.ofInt 32 1).toNat : Int) = _
  rw [ofInt_zV, wrap_zV]
  have : BitVec.ofInt 32 1 = 1#32 := rfl
  rw [this]
  unfold zV
  rw [BitVec.toNat_and]
  have h1 : (1#32).toNat = 1 := rfl
  rw [h1, Nat.and_one_is_mod]
  have h2 : a.getLsbD 0 = decide (a.toNat % 2 = 1) := by
    rw [BitVec.getLsbD, Nat.testBit_zero]
  rw [h2]
  by_cases h : a.toNat % 2 = 1
  · simp [h]
  · have : a.toNat % 2 = 0 := by omega
    simp [this]

theorem bit0_mod (a : BitVec 32) : a.getLsbD 0 = decide (zV a % (2 : Int) = 1) := by
  rw [BitVec.getLsbD, Nat.testBit_zero]
  unfold zV
  by_cases h : a.toNat % 2 = 1
  · have : (a.toNat : Int) % 2 = 1 := by omega
    simp [h, this]
  · have : ¬ (a.toNat : Int) % 2 = 1 := by omega
    simp [h, this]

theorem half_zV (a : BitVec 32) : zV a / (2 : Int) = zV (a >>> 1) := by
  unfold zV
  rw [BitVec.toNat_ushiftRight, Nat.shiftRight_eq_div_pow, Nat.pow_one]
  omega

theorem zV_poly : zV cPoly = 3988292384 := rfl
theorem zV_ones : zV (BitVec.allOnes 32) = 4294967295 := rfl
theorem zV_byte (b : UInt8) : zV (byteV b) = (b.toNat : Int) := by
  have := UInt8.toNat_lt b
  unfold zV byteV
  rw [BitVec.toNat_ofNat, Nat.mod_eq_of_lt (by omega)]

theorem not_zV (a : BitVec 32) : 4294967295 - zV a = zV (~~~ a) := by
  unfold zV
  rw [BitVec.toNat_not]
  have := a.isLt
  omega

theorem not_bits (a : BitVec 32) : bits .xor .u32 IntKind.u32.max (zV a) = zV (~~~ a) := by
  have h : IntKind.u32.max = zV (BitVec.allOnes 32) := rfl
  rw [h, bits_xor_zV]
  congr 1

/-- The sum, as a number. -/
def sumZ (l : List UInt8) : Int := zV (crc l)
theorem sumZ_nonneg (l : List UInt8) : 0 ≤ sumZ l := zV_nonneg _
theorem sumZ_lt (l : List UInt8) : sumZ l < 4294967296 := zV_lt _
theorem sumZ_burst (p m m' q : List UInt8) (hl : m.length = m'.length) (h4 : m.length ≤ 4) (h : sumZ (p ++ m ++ q) = sumZ (p ++ m' ++ q)) : m = m' :=
  crc_burst p m m' q hl h4 (zV_inj h)

end Go.Proofs.YtfmhmokbbkliaaaGreat.Smm
