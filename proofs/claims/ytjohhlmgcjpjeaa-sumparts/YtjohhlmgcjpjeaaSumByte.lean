/- A row of bytes made of a string, one of its bytes set, and turned back into a string. -/
import Derived.Test.YtjohhlmgcjpjeaaWireRow
import Derived.Test.YtjohhlmgcjpjeaaSumRow
namespace Go.Proofs.Ytjohhlmgcjpjeaa
open Go.RowKit

theorem bytes_row {P : Program} (w : World) (src dst e : TypeId) (s : ByteArray) (hs : P.underlying src = some .string) (hd : P.underlying dst = some (.slice e)) (he : P.underlying e = some (.int .u8)) (hm : s.size ≤ maxLen) (base : Nat) (hb : base ≤ w.heap.size) :
    ∃ v w', (convert src dst (.string s)).run P w = .ok v w' ∧ ByteRow base w' v s.data.toList ∧ Below base w w' :=
  ⟨_, _, run_bytes_of_string w src dst e s hs hd he, ByteRow.made w e s hm base hb, ((Below.refl base w).drew).alloc hb _⟩

/-- The block and its room. -/
structure RowAt (base : Nat) (w : World) (g cap : Nat) (l : List UInt8) : Prop where
  lo : base ≤ g
  hi : g < w.heap.size
  fits : l.length ≤ cap
  most : cap ≤ maxLen
  cell : ∀ j (hj : j < l.length), w.cell? ⟨g, j, none⟩ = some (.int .u8 (l[j].toNat : Int))
  live : ∀ j, j < cap → w.frozen? ⟨g, j, none⟩ = false

theorem ByteRow.open {base : Nat} {w : World} {v : Value} {l : List UInt8} (h : ByteRow base w v l) : ∃ g cap, v = .slice (some ⟨g, 0, none⟩) l.length cap ∧ RowAt base w g cap l := by
  obtain ⟨g, cap, h1, h2, h3, h4, h5, h6, h7⟩ := h.ex
  exact ⟨g, cap, h1, h2, h3, h4, h5, h6, fun j hj => (h7 j hj).2⟩

theorem RowAt.below {base : Nat} {w w' : World} {g cap : Nat} {l : List UInt8} (h : RowAt base w g cap l) (hb : Below w.heap.size w w') : RowAt base w' g cap l :=
  ⟨h.lo, Nat.lt_of_lt_of_le h.hi hb.size, h.fits, h.most, fun j hj => (hb.cell (p := ⟨g, j, none⟩) h.hi).trans (h.cell j hj), fun j hj => (hb.frozen (p := ⟨g, j, none⟩) h.hi).trans (h.live j hj)⟩

theorem RowAt.set {base : Nat} {w : World} {g cap : Nat} {l : List UInt8} (h : RowAt base w g cap l) (p : Nat) (hp : p < l.length) (y : UInt8) :
    RowAt base (w.setCell ⟨g, p, none⟩ (.int .u8 (y.toNat : Int))) g cap (l.set p y) := by
  refine ⟨h.lo, by simpa [World.setCell] using h.hi, by rw [List.length_set]; exact h.fits, h.most, fun j hj => ?_, fun j hj => ?_⟩
  · rw [List.length_set] at hj
    by_cases e : j = p
    · subst e
      rw [List.getElem_set_self]
      exact World.cell?_setCell_same _ _ _ (h.cell j hp)
    · rw [List.getElem_set_ne (by omega), World.cell?_setCell_other]
      · exact h.cell j hj
      · intro e2
        apply e
        exact (Addr.mk.inj e2).2.1.symm
  · rw [World.frozen?_setCell]; exact h.live j hj

theorem RowAt.set_below {base base0 : Nat} {w0 w : World} {g cap : Nat} {l : List UInt8} (h : RowAt base w g cap l) (hb : Below base0 w0 w) (h0 : base0 ≤ base) (p : Nat) (v : Value) : Below base0 w0 (w.setCell ⟨g, p, none⟩ v) :=
  hb.setCell (p := ⟨g, p, none⟩) (Nat.le_trans h0 h.lo) v

theorem RowAt.string {P : Program} {base : Nat} {w : World} {g cap : Nat} {l : List UInt8} (h : RowAt base w g cap l) (src dst e : TypeId) (hs : P.underlying src = some (.slice e)) (he : P.underlying e = some (.int .u8)) (hd : P.underlying dst = some .string) (w' : World) (hb : Below w.heap.size w w') :
    (convert src dst (.slice (some ⟨g, 0, none⟩) l.length cap)).run P w' = .ok (.string ⟨l.toArray⟩) w' :=
  run_convert_bytes_back (P := P) w' src dst e ⟨g, 0, none⟩ cap l hs he hd (fun j hj => by rw [Addr.add_lit, Nat.zero_add]; exact (h.below hb).cell j hj)

/-- A byte, and another number than 0, one bit by the other: another byte. -/
theorem xor8 (o : UInt8) (x : Int) (h0 : 0 < x) (h1 : x < 256) : ∃ y : UInt8, bits .xor .u8 (o.toNat : Int) x = (y.toNat : Int) ∧ y ≠ o := by
  have ho : BitVec.ofInt 8 (o.toNat : Int) = o.toBitVec := by
    rw [BitVec.ofInt_natCast]
    apply BitVec.eq_of_toNat_eq
    rw [BitVec.toNat_ofNat]
    have := UInt8.toNat_lt o
    rw [Nat.mod_eq_of_lt (by omega)]
    rfl
  refine ⟨⟨o.toBitVec ^^^ BitVec.ofInt 8 x⟩, ?_, ?_⟩
  · show IntKind.u8.wrap ((BitVec.ofInt 8 (o.toNat : Int) ^^^ BitVec.ofInt 8 x).toNat : Int) = _
    rw [ho]
    show (((o.toBitVec ^^^ BitVec.ofInt 8 x).toNat : Nat) : Int) % 256 = ((o.toBitVec ^^^ BitVec.ofInt 8 x).toNat : Int)
    have := (o.toBitVec ^^^ BitVec.ofInt 8 x).isLt
    omega
  · intro e
    have h : o.toBitVec ^^^ BitVec.ofInt 8 x = o.toBitVec := congrArg UInt8.toBitVec e
    have h2 : o.toBitVec ^^^ (o.toBitVec ^^^ BitVec.ofInt 8 x) = o.toBitVec ^^^ o.toBitVec := by rw [h]
    rw [← BitVec.xor_assoc, BitVec.xor_self, BitVec.zero_xor] at h2
    have h3 := congrArg BitVec.toNat h2
    rw [BitVec.toNat_ofInt] at h3
    simp at h3
    omega

end Go.Proofs.Ytjohhlmgcjpjeaa
