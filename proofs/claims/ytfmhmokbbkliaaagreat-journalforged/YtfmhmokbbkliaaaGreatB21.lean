/- Part 21 of the proof: WireRefT, WireTextR. -/
import Derived.Test.YtfmhmokbbkliaaaGreatB02
import Derived.Deep.RegionWith

/- The contract of tabulariumref01.TakeNum. -/
namespace Go.Proofs.YtfmhmokbbkliaaaGreat.Wir
open Go.RowKit Go.Proofs.YtfmhmokbbkliaaaGreat

/-- What the document's own TakeNum answers. -/
def refTakeV (s : ByteArray) : Value := match takeZ 0 0 s.data.toList with
  | none => .tuple #[.int .i64 0, .string ⟨#[]⟩, .bool false]
  | some (z, k) => .tuple #[.int .i64 (Lib.unzigzag z), .string (s.extract k s.size), .bool true]
theorem refTakeV_no {s : ByteArray} (h : takeZ 0 0 s.data.toList = none) : refTakeV s = .tuple #[.int .i64 0, .string ⟨#[]⟩, .bool false] := by unfold refTakeV; rw [h]
theorem refTakeV_yes {s : ByteArray} {z k : Nat} (h : takeZ 0 0 s.data.toList = some (z, k)) : refTakeV s = .tuple #[.int .i64 (Lib.unzigzag z), .string (s.extract k s.size), .bool true] := by unfold refTakeV; rw [h]

theorem at_list (s : ByteArray) (k : Nat) (h : k < s.size) : s.data.toList[k]'(by simpa using h) = s[k] := rfl

theorem mod_step (V b : Nat) : IntKind.u64.wrap (IntKind.u64.wrap (((V % 18446744073709551616 : Nat) : Int) * 128) + (b : Int)) = (((b + 128 * V) % 18446744073709551616 : Nat) : Int) := by
  rw [IntKind.wrap_u64, IntKind.wrap_u64]; omega

theorem cutS_toList (s : ByteArray) (k : Nat) : (s.extract 0 k).toList = s.data.toList.take k := by
  rw [Lib.extract_toList]; simp

set_option maxRecDepth 100000 in
set_option maxHeartbeats 2000000 in
theorem refTake_any (s : ByteArray) (w : World) (hs : s.size ≤ maxLen) :
    Calls Tryz.prog 99 #[.string s] w fun e w' => e = .returned (refTakeV s) ∧ Below w.heap.size w w' := by
  unfold maxLen at hs
  have hsl : s.data.toList.length = s.size := Array.length_toList
  have HS : Hid (s.data.toList.length = s.size) := hsl
  clear hsl
  go_enter Tryz.func99, Tryz.ntmps99
  go_wp2
  go_loop [5] (fun i => ∃ k : Nat, k ≤ s.size ∧ k ≤ 10 ∧ i = .int .i64 (k + 1 : Nat) ∧ ∀ b ∈ s.data.toList.take k, 128 ≤ b.toNat) (fun i => 11 - (intOf i).toNat)
  case atStart => exact ⟨0, by omega, by omega, rfl, by simp⟩
  case round =>
    obtain ⟨k, hk, hk10, rfl, hbig⟩ := hrel
    have HB : Hid (∀ b ∈ s.data.toList.take k, 128 ≤ b.toNat) := hbig
    clear hbig
    by_cases hlt : k < s.size ∧ k < 10
    · obtain ⟨hlt, hlt10⟩ := hlt
      by_cases hc : 128 ≤ s[k].toNat
      · have hc' : (128 : Int) ≤ (s[k].toNat : Int) := by omega
        have HB2 : Hid (∀ b ∈ s.data.toList.take (k + 1), 128 ≤ b.toNat) := big_step HB.out (by rw [HS.out]; exact hlt) hc
        clear HB hc
        go_wp2
        go_round
        case rel => exact ⟨k + 1, by omega, by omega, by go_num, HB2.out⟩
        case measure => simp [intOf]; omega
      · have hc' : (s[k].toNat : Int) < 128 := by omega
        go_wp2
        go_loop [6, 7] (fun z i => ∃ j Z : Nat, j ≤ k + 1 ∧ i = .int .i64 ((j : Int) - 1) ∧ z = .int .u64 Z ∧ Z = valB ((s.data.toList.take (k + 1)).drop j) % 18446744073709551616) (fun _ i => (intOf i + 1).toNat)
        case atStart => exact ⟨k + 1, 0, by omega, by go_num, rfl, by rw [List.drop_eq_nil_of_le (by simp; omega)]; rfl⟩
        case round =>
          obtain ⟨j, Z, hj, rfl, rfl, hZ⟩ := hrel
          have HZ : Hid (Z = valB ((s.data.toList.take (k + 1)).drop j) % 18446744073709551616) := hZ
          have hZlt : Z < 18446744073709551616 := by rw [hZ]; exact Nat.mod_lt _ (by decide)
          clear hZ
          by_cases hj0 : 0 < j
          · obtain ⟨i, rfl⟩ : ∃ i, j = i + 1 := ⟨j - 1, by omega⟩
            have hil : i < s.size := by omega
            have HV : Hid (IntKind.u64.wrap (IntKind.u64.wrap ((Z : Int) * 128) + (s[i].toNat : Int) % 128) = ((valB ((s.data.toList.take (k + 1)).drop i) % 18446744073709551616 : Nat) : Int)) := by
              have h1 := mod_step (valB ((s.data.toList.take (k + 1)).drop (i + 1))) (s[i].toNat % 128)
              have h2 := val_step (l := s.data.toList) (k := k + 1) (j := i) (by omega) (by rw [HS.out]; omega)
              rw [at_list s i hil] at h2
              rw [← HZ.out, ← h2] at h1
              exact h1
            clear HZ HB
            go_wp2
            go_round
            case rel => exact ⟨i, _, by omega, rfl, congrArg (Value.int .u64) HV.out, rfl⟩
            case measure => simp [intOf]
          · obtain rfl : j = 0 := by omega
            have hr := unzig_range hZlt
            obtain ⟨N, hN⟩ : ∃ N, Lib.unzigzag Z = N := ⟨_, rfl⟩
            have hNe : Z % 2 = 0 → (Z : Int) / 2 = N := by
              intro h; rw [← hN]; unfold Lib.unzigzag; rw [if_pos h]; omega
            have hNo : Z % 2 = 1 → -((Z : Int) / 2) - 1 = N := by
              intro h; rw [← hN]; unfold Lib.unzigzag; rw [if_neg (by omega)]; omega
            have hls : s.data.toList.length = s.size := HS.out
            by_cases hq : numB N = s.data.toList.take (k + 1)
            · have HE : Hid (refTakeV s = .tuple #[.int .i64 N, .string (s.extract (k + 1) s.size), .bool true]) := by
                have h := take_yes (n := N) (by rw [← hN]; exact hr.1) (by rw [← hN]; exact hr.2) (by rw [hls]; omega) hq
                have h2 := refTakeV_yes h
                rw [unzig_zig] at h2
                exact h2
              have hcmp : (numB N == (s.extract 0 (k + 1)).toList) = true := by rw [cutS_toList]; simpa using hq
              rw [hN] at hr
              clear HZ HB HS hls hN hq hc
              rcases (show Z % 2 = 0 ∨ Z % 2 = 1 by omega) with hp | hp
              all_goals
                first
                | have hy := hNe hp; have hb : ((Z : Int) % 2 == 1) = false := by simp; omega
                | have hy := hNo hp; have hb : ((Z : Int) % 2 == 1) = true := by simp; omega
                have HY : Hid _ := hy
                clear hy hNe hNo hp
                go_wp2
                rw [HY.out]
                go_region_with (go_at_call 90; refine (refNum_any N _ hr.1 hr.2).mono ?_; rintro e w2 ⟨rfl, bw⟩)
                all_goals
                  have bw2 : Below w.heap.size w w2 := ((Below.refl w.heap.size w).drew).trans bw
                  clear bw
                  go_wp2
                  refine wp_region_quiet_lit (by kernel_rfl) (by kernel_rfl) ?_
                  repeat (first | go_big_quiet_step (fail) | quiet_step (fail))
                  refine wpQuiet_nil ?_
                  rintro _ ⟨nq, rfl⟩
                  go_wp2
                  go_ret3
                  exact ⟨congrArg Ending.returned HE.out.symm, below_drewN bw2 _⟩
            · have HE : Hid (refTakeV s = .tuple #[.int .i64 0, .string ⟨#[]⟩, .bool false]) := by
                refine refTakeV_no (take_no HB.out (by rw [hls]; exact hlt) ?_ HZ.out (by rw [hN]; exact hq))
                rw [at_list s k hlt]; omega
              have hcmp : (numB N == (s.extract 0 (k + 1)).toList) = false := by rw [cutS_toList]; simpa using hq
              rw [hN] at hr
              clear HZ HB HS hls hN hq hc
              rcases (show Z % 2 = 0 ∨ Z % 2 = 1 by omega) with hp | hp
              all_goals
                first
                | have hy := hNe hp; have hb : ((Z : Int) % 2 == 1) = false := by simp; omega
                | have hy := hNo hp; have hb : ((Z : Int) % 2 == 1) = true := by simp; omega
                have HY : Hid _ := hy
                clear hy hNe hNo hp
                go_wp2
                rw [HY.out]
                go_region_with (go_at_call 90; refine (refNum_any N _ hr.1 hr.2).mono ?_; rintro e w2 ⟨rfl, bw⟩)
                all_goals
                  have bw2 : Below w.heap.size w w2 := ((Below.refl w.heap.size w).drew).trans bw
                  clear bw
                  go_wp2
                  go_ret3
                  exact ⟨congrArg Ending.returned HE.out.symm, bw2⟩
    · have E2 : Hid (refTakeV s = .tuple #[.int .i64 0, .string ⟨#[]⟩, .bool false]) := refTakeV_no (take_none HB.out (by rw [HS.out]; exact hk) (by rw [HS.out]; omega))
      clear HB HS
      go_wp2
      all_goals go_ret3
      all_goals exact ⟨congrArg Ending.returned E2.out.symm, Below.refl _ _⟩

theorem refTake_val (s : ByteArray) (V : Value) (w : World) (hs : s.size ≤ maxLen) (hV : refTakeV s = V) :
    Calls Tryz.prog 99 #[.string s] w fun e w' => e = .returned V ∧ Below w.heap.size w w' := by
  subst hV; exact refTake_any s w hs

end Go.Proofs.YtfmhmokbbkliaaaGreat.Wir

/- The contracts of tabulariumref01.Text and tabulariumref01.TakeText. -/
namespace Go.Proofs.YtfmhmokbbkliaaaGreat.Wir
open Go.RowKit Go.Proofs.YtfmhmokbbkliaaaGreat

set_option maxRecDepth 100000 in
set_option maxHeartbeats 400000 in
theorem refText_yes (s : ByteArray) (w : World) (hs : s.size ≤ 4000) :
    Calls Tryz.prog 121 #[.string s] w fun e w' => e = .returned (.tuple #[.string (textB s), .bool true]) ∧ Below w.heap.size w w' := by
  have hl := numB_len (n := (s.size : Int)) (by omega) (by omega)
  have ha := fun (w : World) => run_string_add_sum (P := Tryz.prog) w ⟨(numB s.size).toArray⟩ s (by rw [mk_size]; omega)
  go_enter Tryz.func121, Tryz.ntmps121
  go_wp2_with fail
  refine (refNum_any (s.size : Int) _ (by omega) (by omega)).mono ?_
  rintro e w1 ⟨rfl, b1⟩
  go_wp2
  go_ret2
  exact ⟨rfl, b1⟩

set_option maxHeartbeats 400000 in
theorem refText_no (s : ByteArray) (w : World) (hs : 4000 < s.size) :
    Calls Tryz.prog 121 #[.string s] w fun e w' => e = .returned (.tuple #[.string ⟨#[]⟩, .bool false]) ∧ Below w.heap.size w w' := by
  go_enter Tryz.func121, Tryz.ntmps121
  go_wp2
  go_ret2
  exact ⟨rfl, Below.refl _ _⟩

set_option maxRecDepth 100000 in
set_option maxHeartbeats 400000 in
theorem refTakeText_yes (s t r : ByteArray) (w : World) (hs : s.size ≤ maxLen) (h : takeT s = some (t, r)) :
    Calls Tryz.prog 100 #[.string s] w fun e w' => e = .returned (.tuple #[.string t, .string r, .bool true]) ∧ Below w.heap.size w w' := by
  obtain ⟨n, q, h1, h2, h3, h4⟩ := takeT_yes h
  subst h3 h4
  obtain ⟨z, k, g1, g2, g3, g4, g5⟩ := takeC_yes h1
  have H1 : Hid (refTakeV s = .tuple #[.int .i64 n, .string q, .bool true]) := by rw [← g2, ← g3]; exact refTakeV_yes g1
  have HS : Hid (s.size ≤ maxLen) := hs
  unfold maxLen at hs
  clear h h1 g1 g2 g3
  go_enter Tryz.func100, Tryz.ntmps100
  go_wp2_with fail
  refine (refTake_val s _ _ HS.out H1.out).mono ?_
  rintro e w1 ⟨rfl, b1⟩
  go_wp2
  refine wp_region_quiet_lit (by kernel_rfl) (by kernel_rfl) ?_
  repeat (first | go_big_quiet_step (fail) | quiet_step (fail))
  refine wpQuiet_nil ?_
  rintro _ ⟨nq, rfl⟩
  go_wp2
  go_ret3
  exact ⟨rfl, below_drewN b1 _⟩

set_option maxRecDepth 100000 in
set_option maxHeartbeats 400000 in
theorem refTakeText_no (s : ByteArray) (w : World) (hs : s.size ≤ maxLen) (h : takeT s = none) :
    Calls Tryz.prog 100 #[.string s] w fun e w' => e = .returned (.tuple #[.string ⟨#[]⟩, .string ⟨#[]⟩, .bool false]) ∧ Below w.heap.size w w' := by
  have hcase : refTakeV s = .tuple #[.int .i64 0, .string ⟨#[]⟩, .bool false] ∨ ∃ (N : Int) (q : ByteArray), refTakeV s = .tuple #[.int .i64 N, .string q, .bool true] ∧ (N < 0 ∨ 4000 < N ∨ 0 ≤ N ∧ N ≤ 4000 ∧ (q.size : Int) < N) := by
    rcases takeT_no h with h1 | ⟨n, q, h1, h2⟩
    · rcases takeC_no h1 with g1 | ⟨z, k, g1, g2⟩
      · exact .inl (refTakeV_no g1)
      · exact .inr ⟨_, _, refTakeV_yes g1, by omega⟩
    · obtain ⟨z, k, g1, g2, g3, g4, g5⟩ := takeC_yes h1
      refine .inr ⟨(n : Int), q, by rw [← g2, ← g3]; exact refTakeV_yes g1, .inr (.inr ⟨by omega, by omega, by omega⟩)⟩
  clear h
  rcases hcase with h1 | ⟨N, q, h1, h2⟩
  · have H1 : Hid _ := h1
    clear h1
    go_enter Tryz.func100, Tryz.ntmps100
    go_wp2_with fail
    refine (refTake_val s _ _ hs H1.out).mono ?_
    rintro e w1 ⟨rfl, b1⟩
    go_wp2
    go_ret3
    exact ⟨rfl, b1⟩
  · have H1 : Hid _ := h1
    clear h1
    rcases h2 with h2 | h2 | ⟨h2, h3, h4⟩
    all_goals
      go_enter Tryz.func100, Tryz.ntmps100
      go_wp2_with fail
      refine (refTake_val s _ _ hs H1.out).mono ?_
      rintro e w1 ⟨rfl, b1⟩
      go_wp2
      all_goals go_ret3
      all_goals exact ⟨rfl, b1⟩

end Go.Proofs.YtfmhmokbbkliaaaGreat.Wir
