/- Plain facts on the eight bytes of a fraction. -/
import Derived.Test.YtoppdclmahelmabWireReal
namespace Go.Proofs.Ytoppdclmahelmab

theorem u8_of (n : Nat) : (n.toUInt8).toNat = n % 256 := by simp [Nat.toUInt8, UInt8.toNat_ofNat']

theorem beB_list (z : Nat) : beB z = [(z / 72057594037927936).toUInt8, (z / 281474976710656).toUInt8, (z / 1099511627776).toUInt8, (z / 4294967296).toUInt8, (z / 16777216).toUInt8, (z / 65536).toUInt8, (z / 256).toUInt8, z.toUInt8] := by
  unfold beB
  show [beAt z 0, beAt z 1, beAt z 2, beAt z 3, beAt z 4, beAt z 5, beAt z 6, beAt z 7] = _
  simp [beAt]

theorem beV_list (a b c d e f g h : UInt8) : beV [a, b, c, d, e, f, g, h] = ((((((a.toNat * 256 + b.toNat) * 256 + c.toNat) * 256 + d.toNat) * 256 + e.toNat) * 256 + f.toNat) * 256 + g.toNat) * 256 + h.toNat := by
  simp [beV]

theorem beB_beV (l : List UInt8) (hl : l.length = 8) : beB (beV l) = l := by
  match l, hl with
  | [a, b, c, d, e, f, g, h], _ =>
    have ha := a.toNat_lt
    have hb := b.toNat_lt
    have hc := c.toNat_lt
    have hd := d.toNat_lt
    have he := e.toNat_lt
    have hf := f.toNat_lt
    have hg := g.toNat_lt
    have hh := h.toNat_lt
    rw [beV_list, beB_list]
    simp only [List.cons.injEq, and_true]
    refine ⟨?_, ?_, ?_, ?_, ?_, ?_, ?_, ?_⟩ <;> (apply UInt8.toNat.inj; rw [u8_of]; omega)

theorem beV_beB (z : Nat) (hz : z < 18446744073709551616) : beV (beB z) = z := by
  rw [beB_list, beV_list]
  simp only [u8_of]
  omega

theorem beB_len (z : Nat) : (beB z).length = 8 := by simp [beB]

end Go.Proofs.Ytoppdclmahelmab
