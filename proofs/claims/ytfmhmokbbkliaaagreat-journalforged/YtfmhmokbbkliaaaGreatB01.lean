/- Part 1 of the proof: WireNum. -/
import Derived.Test.YtfmhmokbbkliaaaGreatB00
import Derived.Laws.IdiomStrings
import Derived.Test.YtfmhmokbbkliaaaGreatRows
import Derived.WalkKit
import Derived.WalkLawsBesides
import Derived.WalkSpells

/- The contracts of wire.fold, wire.unfold and wire.Num. -/
namespace Go.Proofs.YtfmhmokbbkliaaaGreat.Wir
open Go.RowKit Go.Proofs.YtfmhmokbbkliaaaGreat

theorem Tryz.infoByte : (Tryz.prog.info? 5).map (fun i => (i.zero, i.size, i.bytes)) = some (some (.int .u8 0), 1, 1) := by kernel_rfl

theorem ret_int {k : IntKind} {a b : Int} (h : a = b) : Ending.returned (.int k a) = .returned (.int k b) := by rw [h]
theorem ret_str {a b : List UInt8} (h : a = b) : Ending.returned (.string ⟨a.toArray⟩) = .returned (.string ⟨b.toArray⟩) := by rw [h]

set_option maxHeartbeats 400000 in
theorem fold_any (n : Int) (w : World) (h0 : -9223372036854775808 ≤ n) (h1 : n ≤ 9223372036854775807) :
    Calls Tryz.prog 85 #[.int .i64 n] w fun e w' => e = .returned (.int .u64 (Lib.zigzag n)) ∧ w' = w := by
  by_cases hn : n < 0
  · have e := Lib.zigzag_neg h0 hn
    have E : Hid (bits .xor .u64 IntKind.u64.max (IntKind.u64.wrap (IntKind.u64.wrap n * 2)) = ((Lib.zigzag n : Nat) : Int)) := e
    clear e
    go_enter Tryz.func85, Tryz.ntmps85
    go_wp2
    go_ret
    exact ⟨ret_int E.out, rfl⟩
  · have E : Hid (n * 2 = ((Lib.zigzag n : Nat) : Int)) := (Lib.zigzag_nonneg (by omega)).symm
    go_enter Tryz.func85, Tryz.ntmps85
    go_wp2
    go_ret
    exact ⟨ret_int E.out, rfl⟩

set_option maxHeartbeats 400000 in
theorem unfold_any (z : Int) (w : World) (h0 : 0 ≤ z) (h1 : z < 18446744073709551616) :
    Calls Tryz.prog 150 #[.int .u64 z] w fun e w' => e = .returned (.int .i64 (Lib.unzigzag z.toNat)) ∧ w' = w := by
  have ha := Lib.u64_and1 z h0 h1
  by_cases hz : z % 2 = 1
  · have hb : (bits .and .u64 z 1 == 1) = true := by rw [ha]; simpa using hz
    have E : Hid (RowKit.wrap64 (bits .xor .u64 IntKind.u64.max (z / 2)) = Lib.unzigzag z.toNat) := unzig_odd z h0 h1 hz
    clear ha
    go_enter Tryz.func150, Tryz.ntmps150
    go_wp2
    all_goals go_ret
    all_goals exact ⟨ret_int E.out, rfl⟩
  · have hb : (bits .and .u64 z 1 == 1) = false := by rw [ha]; simpa using hz
    have E : Hid (z / 2 = Lib.unzigzag z.toNat) := unzig_even z h0 h1 (by omega)
    clear ha
    go_enter Tryz.func150, Tryz.ntmps150
    go_wp2
    all_goals go_ret
    all_goals exact ⟨ret_int E.out, rfl⟩

theorem unfold_nat (z : Nat) (w : World) (h1 : z < 18446744073709551616) :
    Calls Tryz.prog 150 #[.int .u64 (z : Int)] w fun e w' => e = .returned (.int .i64 (Lib.unzigzag z)) ∧ w' = w := by
  have h := unfold_any (z : Int) w (by omega) (by omega)
  rw [Int.toNat_natCast] at h
  exact h

set_option maxRecDepth 100000 in
set_option maxHeartbeats 1000000 in
theorem num_any (n : Int) (w : World) (h0 : -9223372036854775808 ≤ n) (h1 : n ≤ 9223372036854775807) :
    Calls Tryz.prog 35 #[.int .i64 n] w fun e w' => e = .returned (.string ⟨(numB n).toArray⟩) ∧ Below w.heap.size w w' := by
  obtain ⟨i0, hi, hz0, hz1, hz2⟩ := info_parts Tryz.infoByte
  have hL10 := numB_len h0 h1
  go_enter Tryz.func35, Tryz.ntmps35
  go_wp2_with (first
    | (go_at_call 85; refine (fold_any n _ h0 h1).mono ?_; rintro e w' ⟨rfl, rfl⟩)
    | (at_make; refine wpList_make_own _ rfl _ _ 113 rfl w'.heap.size 5 i0 (.int .u8 0) 1 Tryz.underlying113 hi hz0 hz1 .i64 .i64 10 10 rfl rfl rfl (by omega) (by decide) (Nat.le_refl _) ?_; intro w1 hown0 hgrow0))
  have hb0 : Below w'.heap.size w' w1 := (Below.refl _ _).grown hgrow0 (Nat.le_refl _) (by simp)
  clear hgrow0
  go_loopw [3, 4] (fun zv v wr => ∃ (pre : List UInt8) (zc : Nat), zv = .int .u64 zc ∧ Lib.uvarint (Lib.zigzag n) = pre ++ Lib.uvarint zc ∧ wr.ownsRow w'.heap.size 5 1 v pre.length (Lib.byteCells pre) ∧ Below w'.heap.size w' wr) (fun zv _ _ => (intOf zv).toNat)
  case atStart => exact ⟨[], Lib.zigzag n, rfl, rfl, hown0, hb0⟩
  case round =>
    obtain ⟨pre, zc, rfl, hE, hown, hbel⟩ := hrel
    have E : Hid (Lib.uvarint (Lib.zigzag n) = pre ++ Lib.uvarint zc) := hE
    have hp9 : pre.length ≤ 9 := by
      have := Lib.uvarint_pos zc
      have h2 : (numB n).length = pre.length + (Lib.uvarint zc).length := by unfold numB; rw [hE]; simp
      omega
    have hsz := hbel.size
    clear hE hown0 hb0
    by_cases hlt : 128 ≤ zc
    · have hbo := byte_or zc
      have HB : Hid (bits .or .u8 ((zc : Int) % 256) 128 = ((zc % 128 + 128 : Nat) : Int)) := hbo
      clear hbo
      go_wp2_with (at_builtin; refine wpList_append_own _ rfl _ _ 113 rfl w'.heap.size 5 i0 (.int .u8 0) 1 1 Tryz.underlying113 hi hz0 hz1 hz2 rfl (by decide) _ _ _ rfl (hown.alloc _) ⟨wr.heap.size, 0, none⟩ 1 1 [.int .u8 (bits .or .u8 ((zc : Int) % 256) 128)] rfl rfl ?c1 ?c2 ?c3 ?c4 ?c5 ?_)
      case c1 =>
        intro j u hj
        match j, hj with
        | 0, hj => simp at hj; subst hj; simp [Addr.add]
      case c2 => intro u hu; simp at hu; subst hu; rfl
      case c3 => unfold maxLen; omega
      case c4 => omega
      case c5 => simp; omega
      · intro v' w2 hown' hgrow _
        have hown2 : w2.ownsRow w'.heap.size 5 1 v' (pre ++ [(zc % 128 + 128).toUInt8]).length (Lib.byteCells (pre ++ [(zc % 128 + 128).toUInt8])) := by
          rw [← byte_cell pre (by omega) HB.out]; simpa using hown'
        have hbel2 : Below w'.heap.size w' w2 := by
          refine (hbel.alloc hsz _).grown hgrow (by simp; omega) ?_
          intro k hk
          exact (hown.lt k hk).1
        have E2 : Hid (Lib.uvarint (Lib.zigzag n) = (pre ++ [(zc % 128 + 128).toUInt8]) ++ Lib.uvarint (zc / 128)) := by rw [E.out]; exact uv_round hlt pre
        clear hown' hgrow hown hbel HB E
        go_wp2
        go_roundw
        case rel => exact ⟨_, zc / 128, by go_num, E2.out, hown2, hbel2⟩
        case measure => simp [intOf]; omega
    · go_wp2_with (at_builtin; refine wpList_append_own _ rfl _ _ 113 rfl w'.heap.size 5 i0 (.int .u8 0) 1 1 Tryz.underlying113 hi hz0 hz1 hz2 rfl (by decide) _ _ _ rfl (hown.alloc _) ⟨wr.heap.size, 0, none⟩ 1 1 [.int .u8 (zc : Int)] rfl rfl ?c1 ?c2 ?c3 ?c4 ?c5 ?_)
      case c1 =>
        intro j u hj
        match j, hj with
        | 0, hj => simp at hj; subst hj; simp [Addr.add]
      case c2 => intro u hu; simp at hu; subst hu; rfl
      case c3 => unfold maxLen; omega
      case c4 => omega
      case c5 => simp; omega
      · intro v' w2 hown' hgrow _
        rw [byte_cell pre (by omega) (rfl : (zc : Int) = ((zc : Nat) : Int))] at hown'
        have hbel2 : Below w'.heap.size w' w2 := by
          refine (hbel.alloc hsz _).grown hgrow (by simp; omega) ?_
          intro k hk
          exact (hown.lt k hk).1
        obtain ⟨g, cap, rfl, hn, hcells⟩ := own_cells hown' (by omega)
        have hcv := run_convert_bytes_back (P := Tryz.prog) w2 113 9 5 ⟨g, 0, none⟩ cap (pre ++ [zc.toUInt8]) Tryz.underlying113 Tryz.underlying5 Tryz.underlying9 hcells
        have E2 : Hid (pre ++ [zc.toUInt8] = numB n) := by
          have := E.out
          rw [Lib.uvarint_small (x := zc) (by omega)] at this
          exact this.symm
        generalize pre ++ [zc.toUInt8] = out at *
        clear hown' hgrow hown hbel E hcells hn
        go_wp2
        go_ret
        exact ⟨ret_str E2.out, hbel2⟩

end Go.Proofs.YtfmhmokbbkliaaaGreat.Wir
