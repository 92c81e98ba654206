/- The contracts of tabulariumref01.Real, tabulariumref01.TakeReal and tabulariumref03.Same. -/
import Derived.Test.YtoppdclmahelmaaWireRealM
import Derived.Deep.RegionWith
namespace Go.Proofs.Ytoppdclmahelmaa
open Go.RowKit

theorem beAt_down (z t : Nat) (h : t ≤ 7) : ((z : Int) / 2 ^ (8 * t)) % 256 = ((beAt z (7 - t)).toNat : Int) := by
  have e := beAt_int z (7 - t)
  rw [show 7 - (7 - t) = t by omega] at e
  exact e

theorem beB_take (z t : Nat) (h : t ≤ 7) : (beB z).take (7 - t) ++ [beAt z (7 - t)] = (beB z).take (8 - t) := by
  rw [show 8 - t = (7 - t) + 1 by omega, List.take_succ_eq_append_getElem (by rw [beB_len]; omega)]
  simp [beB]

theorem byte_cell8 (pre : List UInt8) (b : UInt8) : Lib.byteCells pre ++ [Value.int .u8 (b.toNat : Int)] = Lib.byteCells (pre ++ [b]) := by
  simp [Lib.byteCells]

set_option maxRecDepth 100000 in
set_option maxHeartbeats 1000000 in
theorem refReal_any (b : Nat) (w : World) :
    Calls Try.prog 18 #[.float .f64 b] w fun e w' => e = .returned (.string ⟨(beB (realZ b)).toArray⟩) ∧ Below w.heap.size w w' := by
  obtain ⟨i0, hi, hz0, hz1, hz2⟩ := info_parts Try.infoByte
  have hrb := run_bits
  obtain ⟨Z, hZ⟩ : ∃ Z, realZ b = Z := ⟨_, rfl⟩
  rw [hZ]
  have hn : nanB b = true ∧ nanW = Z ∨ nanB b = false ∧ b = Z := by
    rw [← hZ]; unfold realZ; cases nanB b <;> simp
  clear hZ
  rcases hn with ⟨hn, hz⟩ | ⟨hn, hz⟩
  all_goals
    have HZ : Hid _ := hz
    clear hz
    unfold nanB at hn
    go_enter Try.func18, Try.ntmps18
    go_wp2
    first
    | rw [show Value.int IntKind.u64 9221120237041090561 = Value.int IntKind.u64 (Z : Int) from congrArg (fun n : Nat => Value.int IntKind.u64 (n : Int)) HZ.out]
    | rw [show Value.int IntKind.u64 (b : Int) = Value.int IntKind.u64 (Z : Int) from congrArg (fun n : Nat => Value.int IntKind.u64 (n : Int)) HZ.out]
    clear hn hrb HZ
    go_loopw [4, 5] (fun v c wr => ∃ m : Nat, m ≤ 8 ∧ c = .int .i64 ((m : Int) - 1) ∧ wr.ownsRow w.heap.size 5 1 v (8 - m) (Lib.byteCells ((beB Z).take (8 - m))) ∧ Below w.heap.size w wr) (fun _ c _ => (intOf c + 1).toNat)
    case atStart => exact ⟨8, by omega, rfl, World.ownsRow_nil _ _ _ _, Below.refl _ _⟩
    case round =>
      obtain ⟨m, hm, rfl, hown, hbel⟩ := hrel
      have hsz := hbel.size
      by_cases hm0 : 0 < m
      · obtain ⟨t, rfl⟩ : ∃ t, m = t + 1 := ⟨m - 1, by omega⟩
        have hat := beAt_down Z t (by omega)
        rw [show 8 - (t + 1) = 7 - t by omega] at hown
        go_wp2_with (at_builtin; refine wpList_append_own _ rfl _ _ 61 rfl w.heap.size 5 i0 (.int .u8 0) 1 1 Try.underlying61 hi hz0 hz1 hz2 rfl (by decide) _ _ _ rfl (hown.alloc _) ⟨wr.heap.size, 0, none⟩ 1 1 [.int .u8 ((beAt Z (7 - t)).toNat : Int)] rfl rfl ?c1 ?c2 ?c3 ?c4 ?c5 ?_)
        case c1 =>
          intro j u hj
          match j, hj with
          | 0, hj => simp at hj; subst hj; simp [Addr.add]
        case c2 => intro u hu; simp at hu; subst hu; rfl
        case c3 => unfold maxLen; omega
        case c4 => omega
        case c5 => simp; omega
        · intro v' w2 hown' hgrow _
          rw [byte_cell8, beB_take Z t (by omega), show 7 - t + 1 = 8 - t by omega] at hown'
          have hbel2 : Below w.heap.size w w2 := by
            refine (hbel.alloc hsz _).grown hgrow (by simp; omega) ?_
            intro k hk
            exact (hown.lt k hk).1
          clear hgrow hown hbel hat
          go_wp2
          go_roundw
          case rel => exact ⟨t, by omega, by go_num, hown', hbel2⟩
          case measure => simp [intOf]
      · obtain rfl : m = 0 := by omega
        rw [show (beB Z).take (8 - 0) = beB Z from List.take_of_length_le (by rw [beB_len]; omega)] at hown
        obtain ⟨g, cap, rfl, hn8, hcells⟩ := own_cells hown (by omega)
        have hcv := run_convert_bytes_back (P := Try.prog) wr 61 9 5 ⟨g, 0, none⟩ cap (beB Z) Try.underlying61 Try.underlying5 Try.underlying9 hcells
        clear hown hcells hn8
        go_wp2
        go_ret
        exact ⟨rfl, hbel⟩

theorem cut8_toList (s : ByteArray) (k : Nat) : (s.extract 0 k).toList = s.data.toList.take k := by
  rw [Lib.extract_toList]; simp

set_option maxRecDepth 100000 in
set_option maxHeartbeats 2000000 in
theorem refTakeReal_any (s : ByteArray) (V : Value) (w : World) (hs : s.size ≤ maxLen) (hV : V = match takeR s with
      | none => .tuple #[.float .f64 0, .string ⟨#[]⟩, .bool false]
      | some b => .tuple #[.float .f64 b, .string (s.extract 8 s.size), .bool true]) :
    Calls Try.prog 15 #[.string s] w fun e w' => e = .returned V ∧ Below w.heap.size w w' := by
  have hrf := run_frombits
  unfold maxLen at hs
  by_cases h8 : s.size < 8
  · have HV : Hid (V = .tuple #[.float .f64 0, .string ⟨#[]⟩, .bool false]) := by
      rw [hV]; unfold takeR; rw [if_pos h8]; rfl
    clear hV hrf
    go_enter Try.func15, Try.ntmps15
    go_wp2
    go_ret3
    exact ⟨congrArg Ending.returned HV.out.symm, Below.refl _ _⟩
  · obtain ⟨X, hX⟩ : ∃ X, beV (s.data.toList.take 8) = X := ⟨_, rfl⟩
    have hl8 : (s.data.toList.take 8).length = 8 := by
      have : s.data.toList.length = s.size := Array.length_toList
      rw [List.length_take, this]; omega
    have hVc : (beB (realZ X) == (s.extract 0 8).toList) = false ∧ V = .tuple #[.float .f64 0, .string ⟨#[]⟩, .bool false] ∨ (beB (realZ X) == (s.extract 0 8).toList) = true ∧ V = .tuple #[.float .f64 X, .string (s.extract 8 s.size), .bool true] := by
      rw [hV, cut8_toList]; unfold takeR
      rw [if_neg h8, hX]
      have hself : beB X = s.data.toList.take 8 := by rw [← hX]; exact beB_beV _ hl8
      by_cases hc : nanB X = true ∧ X ≠ nanW
      · rw [if_pos hc]
        refine .inl ⟨?_, rfl⟩
        unfold realZ
        rw [if_pos hc.1, ← hself]
        simp only [beq_eq_false_iff_ne, ne_eq]
        intro he
        have h2 := congrArg beV he
        have hXlt : X < 18446744073709551616 := by
          rw [← hX]
          have := beV_lt' (s.data.toList.take 8)
          rw [hl8] at this
          exact this
        rw [beV_beB nanW (by decide), beV_beB X hXlt] at h2
        exact hc.2 h2.symm
      · rw [if_neg hc]
        refine .inr ⟨?_, rfl⟩
        have hz : realZ X = X := by
          unfold realZ
          cases hn : nanB X
          · simp
          · simp only [if_true]
            by_cases he : X = nanW
            · exact he.symm
            · exact absurd ⟨hn, he⟩ hc
        rw [hz, hself]; simp
    clear hV hl8
    have HX : Hid (beV (s.data.toList.take 8) = X) := hX
    have HVc : Hid _ := hVc
    clear hX hVc
    go_enter Try.func15, Try.ntmps15
    go_wp2
    go_loop [5, 6] (fun z c => ∃ k : Nat, k ≤ 8 ∧ c = .int .i64 k ∧ z = .int .u64 (beV (s.data.toList.take k) : Nat)) (fun _ c => 8 - (intOf c).toNat)
    case atStart => exact ⟨0, by omega, rfl, rfl⟩
    case round =>
      obtain ⟨k, hk, rfl, rfl⟩ := hrel
      by_cases hlt : k < 8
      · have hks : k < s.size := by omega
        have hst := beV_take s k hks
        have hsm := beV_small s.data.toList k (by omega)
        have hor := or_byte (beV (s.data.toList.take k)) s[k] hsm
        have HT : Hid (beV (s.data.toList.take (k + 1)) = beV (s.data.toList.take k) * 256 + s[k].toNat) := hst
        have HO : Hid (bits .or .u64 ((beV (s.data.toList.take k) : Int) * 256) (s[k].toNat : Int) = ((beV (s.data.toList.take k) * 256 + s[k].toNat : Nat) : Int)) := hor
        have hsb := s[k].toNat_lt
        clear hst hor HX HVc
        generalize beV (s.data.toList.take k) = A at *
        go_wp2
        go_round
        case rel => exact ⟨k + 1, by omega, by go_num, by rw [HT.out]; exact congrArg (Value.int .u64) HO.out⟩
        case measure => simp [intOf]; omega
      · obtain rfl : k = 8 := by omega
        rw [HX.out]
        clear HX
        rcases HVc.out with ⟨c1, c3⟩ | ⟨c1, c3⟩
        · have HV : Hid _ := c3
          clear c3 HVc
          go_wp2
          go_region_with (go_at_call 18; refine (refReal_any X _).mono ?_; rintro e w2 ⟨rfl, bw⟩)
          all_goals
            have bw2 : Below w.heap.size w w2 := ((Below.refl w.heap.size w).drew).trans bw
            clear bw
            go_wp2
            go_ret3
            exact ⟨congrArg Ending.returned HV.out.symm, bw2⟩
        · have HV : Hid _ := c3
          clear c3 HVc
          go_wp2
          go_region_with (go_at_call 18; refine (refReal_any X _).mono ?_; rintro e w2 ⟨rfl, bw⟩)
          all_goals
            have bw2 : Below w.heap.size w w2 := ((Below.refl w.heap.size w).drew).trans bw
            clear bw
            go_wp2
            refine wp_region_quiet_lit (by kernel_rfl) (by kernel_rfl) ?_
            repeat (first | go_big_quiet_step (fail) | quiet_step (fail))
            refine wpQuiet_nil ?_
            rintro _ ⟨nq, rfl⟩
            go_wp2
            go_ret3
            exact ⟨congrArg Ending.returned HV.out.symm, below_drewN bw2 _⟩

set_option maxHeartbeats 400000 in
theorem same_any (b : Nat) (w : World) : Calls Try.prog 16 #[.float .f64 b, .float .f64 b] w fun e w' => e = .returned (.bool true) ∧ Below w.heap.size w w' := by
  have hrb := run_bits
  cases hn : (FloatKind.f64.format.order b b != some Ordering.eq)
  all_goals
    go_enter Try.func16, Try.ntmps16
    go_wp2
    go_ret
    exact ⟨rfl, Below.refl _ _⟩

end Go.Proofs.Ytoppdclmahelmaa
