/- The contracts of tabulariumref01.Num and tabulariumref01.TakeNum. -/
import Derived.Test.YtokldcifhjkmnaaWireTz
import Derived.Test.YtokldcifhjkmnaaWireUse
namespace Go.Proofs.Ytokldcifhjkmnaa.Wir
open Go.RowKit Go.Proofs.Ytokldcifhjkmnaa

set_option maxRecDepth 100000 in
set_option maxHeartbeats 1000000 in
theorem refNum_any (n : Int) (w : World) (h0 : -9223372036854775808 ≤ n) (h1 : n ≤ 9223372036854775807) :
    Calls Try.prog 30 #[.int .i64 n] w fun e w' => e = .returned (.string ⟨(numB n).toArray⟩) ∧ Below w.heap.size w w' := by
  obtain ⟨i0, hi, hz0, hz1, hz2⟩ := info_parts Try.infoByte
  have hL10 := numB_len h0 h1
  have hx : ∃ X : Int, X = ((Lib.zigzag n : Nat) : Int) ∧ (n < 0 → bits .xor .u64 IntKind.u64.max (IntKind.u64.wrap (IntKind.u64.wrap n * 2)) = X) ∧ (¬ n < 0 → n * 2 = X) :=
    ⟨_, rfl, fun h => Lib.zigzag_neg h0 h, fun h => (Lib.zigzag_nonneg (by omega)).symm⟩
  obtain ⟨X, hX, hX1, hX2⟩ := hx
  have HX : Hid (X = ((Lib.zigzag n : Nat) : Int)) := hX
  clear hX
  by_cases hneg : n < 0
  all_goals
    first
    | have e := hX1 hneg
    | have e := hX2 hneg
    have E0 : Hid _ := e
    clear e hX1 hX2
    go_enter Try.func30, Try.ntmps30
    go_wp2
    go_loopw [3, 4] (fun zv v wr => ∃ (pre : List UInt8) (zc : Nat), zv = .int .u64 zc ∧ Lib.uvarint (Lib.zigzag n) = pre ++ Lib.uvarint zc ∧ zc < 18446744073709551616 ∧ wr.ownsRow w.heap.size 5 1 v pre.length (Lib.byteCells pre) ∧ Below w.heap.size w wr) (fun zv _ _ => (intOf zv).toNat)
    case atStart => exact ⟨[], Lib.zigzag n, congrArg (Value.int .u64) (E0.out.trans HX.out), rfl, Lib.zigzag_lt h0 h1, World.ownsRow_nil _ _ _ _, Below.refl _ _⟩
    case round =>
      obtain ⟨pre, zc, rfl, hE, hzc, hown, hbel⟩ := hrel
      have E : Hid (Lib.uvarint (Lib.zigzag n) = pre ++ Lib.uvarint zc) := hE
      have hp9 : pre.length ≤ 9 := by
        have := Lib.uvarint_pos zc
        have h2 : (numB n).length = pre.length + (Lib.uvarint zc).length := by unfold numB; rw [hE]; simp
        omega
      have hsz := hbel.size
      clear hE E0 HX
      by_cases hlt : 128 ≤ zc
      · go_wp2_with (at_builtin; refine wpList_append_own _ rfl _ _ 57 rfl w.heap.size 5 i0 (.int .u8 0) 1 1 Try.underlying57 hi hz0 hz1 hz2 rfl (by decide) _ _ _ rfl (hown.alloc _) ⟨wr.heap.size, 0, none⟩ 1 1 [.int .u8 ((zc : Int) % 128 + 128)] rfl rfl ?c1 ?c2 ?c3 ?c4 ?c5 ?_)
        case c1 =>
          intro j u hj
          match j, hj with
          | 0, hj => simp at hj; subst hj; simp [Addr.add]
        case c2 => intro u hu; simp at hu; subst hu; rfl
        case c3 => unfold maxLen; omega
        case c4 => omega
        case c5 => simp; omega
        · intro v' w2 hown' hgrow _
          have hown2 : w2.ownsRow w.heap.size 5 1 v' (pre ++ [(zc % 128 + 128).toUInt8]).length (Lib.byteCells (pre ++ [(zc % 128 + 128).toUInt8])) := by
            rw [← byte_cell (a := zc % 128 + 128) (x := (zc : Int) % 128 + 128) pre (by omega) (by omega)]; simpa using hown'
          have hbel2 : Below w.heap.size w w2 := by
            refine (hbel.alloc hsz _).grown hgrow (by simp; omega) ?_
            intro k hk
            exact (hown.lt k hk).1
          have E2 : Hid (Lib.uvarint (Lib.zigzag n) = (pre ++ [(zc % 128 + 128).toUInt8]) ++ Lib.uvarint (zc / 128)) := by rw [E.out]; exact uv_round hlt pre
          clear hown' hgrow hown hbel E
          go_wp2
          go_roundw
          case rel => exact ⟨_, zc / 128, by go_num, E2.out, by omega, hown2, hbel2⟩
          case measure => simp [intOf]; omega
      · go_wp2_with (at_builtin; refine wpList_append_own _ rfl _ _ 57 rfl w.heap.size 5 i0 (.int .u8 0) 1 1 Try.underlying57 hi hz0 hz1 hz2 rfl (by decide) _ _ _ rfl (hown.alloc _) ⟨wr.heap.size, 0, none⟩ 1 1 [.int .u8 (zc : Int)] rfl rfl ?d1 ?d2 ?d3 ?d4 ?d5 ?_)
        case d1 =>
          intro j u hj
          match j, hj with
          | 0, hj => simp at hj; subst hj; simp [Addr.add]
        case d2 => intro u hu; simp at hu; subst hu; rfl
        case d3 => unfold maxLen; omega
        case d4 => omega
        case d5 => simp; omega
        · intro v' w2 hown' hgrow _
          rw [byte_cell pre (by omega) (rfl : (zc : Int) = ((zc : Nat) : Int))] at hown'
          have hbel2 : Below w.heap.size w w2 := by
            refine (hbel.alloc hsz _).grown hgrow (by simp; omega) ?_
            intro k hk
            exact (hown.lt k hk).1
          obtain ⟨g, cap, rfl, hn, hcells⟩ := own_cells hown' (by omega)
          have hcv := run_convert_bytes_back (P := Try.prog) w2 57 9 5 ⟨g, 0, none⟩ cap (pre ++ [zc.toUInt8]) Try.underlying57 Try.underlying5 Try.underlying9 hcells
          have E2 : Hid (pre ++ [zc.toUInt8] = numB n) := by
            have := E.out
            rw [Lib.uvarint_small (x := zc) (by omega)] at this
            exact this.symm
          generalize pre ++ [zc.toUInt8] = out at *
          clear hown' hgrow hown hbel E hcells hn
          go_wp2
          go_ret
          exact ⟨ret_str E2.out, hbel2⟩

end Go.Proofs.Ytokldcifhjkmnaa.Wir
