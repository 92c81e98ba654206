/- The contract of tabulariumref10.Right. -/
import Derived.Test.YthogpaojdlfjcaaEditF2
import Derived.Test.YthogpaojdlfjcaaEditL1
namespace Go.Proofs.Ythogpaojdlfjcaa.Edi
open Go.RowKit Go.Proofs.Ythogpaojdlfjcaa Go.Proofs.Ythogpaojdlfjcaa.Wir

theorem text_empty {r : ByteArray} {v : Bool} (h : decide (r.size = 0) = v) : r.toList.isEmpty = v := by
  rw [← h, Lib.toList_data]
  have hl : r.data.toList.length = r.size := Array.length_toList
  cases hd : r.data.toList with
  | nil => rw [hd] at hl; simp at hl; simp [← hl]
  | cons x y => rw [hd] at hl; simp at hl; simp [← hl]

set_option maxRecDepth 100000 in
set_option maxHeartbeats 4000000 in
theorem refRight_a {k : Int} {p t : ByteArray} {c l n : Int} {ls : List Int} {a : Option Addr} {m q : Nat} {w : World} (u : Bool) (hu : u = false) (hx : k < 1 ∨ 10 < k ∨ 120 < p.size ∨ c < 0 ∨ 4 ≤ c ∨ l < 0 ∨ 9007199254740991 < l) :
    Calls Try.prog 18 #[edV ⟨k, p, t, c, l, n, ls⟩ a m q] w fun x w' => x = .returned (.bool u) ∧ Below w.heap.size w w' := by
  subst hu
  unfold edV
  simp only
  by_cases g0 : k < 1
  · have f0 : decide (k < 1) = true := decide_eq_true (by omega)
    clear hx g0
    go_enter Try.func18, Try.ntmps18
    go_wp2
    go_ret
    exact ⟨rfl, bel_al _ _⟩
  by_cases g1 : 10 < k
  · have f0 : decide (k < 1) = false := decide_eq_false (by omega)
    have f1 : decide (10 < k) = true := decide_eq_true (by omega)
    clear hx g0 g1
    go_enter Try.func18, Try.ntmps18
    go_wp2
    go_ret
    exact ⟨rfl, bel_al _ _⟩
  by_cases g2 : 120 < p.size
  · have f0 : decide (k < 1) = false := decide_eq_false (by omega)
    have f1 : decide (10 < k) = false := decide_eq_false (by omega)
    have f2 : decide ((120 : Int) < (p.size : Int)) = true := decide_eq_true (by omega)
    clear hx g0 g1 g2
    go_enter Try.func18, Try.ntmps18
    go_wp2
    go_ret
    exact ⟨rfl, bel_al _ _⟩
  by_cases g3 : c < 0
  · have f0 : decide (k < 1) = false := decide_eq_false (by omega)
    have f1 : decide (10 < k) = false := decide_eq_false (by omega)
    have f2 : decide ((120 : Int) < (p.size : Int)) = false := decide_eq_false (by omega)
    have f3 : decide (c < 0) = true := decide_eq_true (by omega)
    clear hx g0 g1 g2 g3
    go_enter Try.func18, Try.ntmps18
    go_wp2
    go_ret
    exact ⟨rfl, bel_al _ _⟩
  by_cases g4 : 4 ≤ c
  · have f0 : decide (k < 1) = false := decide_eq_false (by omega)
    have f1 : decide (10 < k) = false := decide_eq_false (by omega)
    have f2 : decide ((120 : Int) < (p.size : Int)) = false := decide_eq_false (by omega)
    have f3 : decide (c < 0) = false := decide_eq_false (by omega)
    have f4 : decide (4 ≤ c) = true := decide_eq_true (by omega)
    clear hx g0 g1 g2 g3 g4
    go_enter Try.func18, Try.ntmps18
    go_wp2
    go_ret
    exact ⟨rfl, bel_al _ _⟩
  by_cases g5 : l < 0
  · have f0 : decide (k < 1) = false := decide_eq_false (by omega)
    have f1 : decide (10 < k) = false := decide_eq_false (by omega)
    have f2 : decide ((120 : Int) < (p.size : Int)) = false := decide_eq_false (by omega)
    have f3 : decide (c < 0) = false := decide_eq_false (by omega)
    have f4 : decide (4 ≤ c) = false := decide_eq_false (by omega)
    have f5 : decide (l < 0) = true := decide_eq_true (by omega)
    clear hx g0 g1 g2 g3 g4 g5
    go_enter Try.func18, Try.ntmps18
    go_wp2
    go_ret
    exact ⟨rfl, bel_al _ _⟩
  by_cases g6 : 9007199254740991 < l
  · have f0 : decide (k < 1) = false := decide_eq_false (by omega)
    have f1 : decide (10 < k) = false := decide_eq_false (by omega)
    have f2 : decide ((120 : Int) < (p.size : Int)) = false := decide_eq_false (by omega)
    have f3 : decide (c < 0) = false := decide_eq_false (by omega)
    have f4 : decide (4 ≤ c) = false := decide_eq_false (by omega)
    have f5 : decide (l < 0) = false := decide_eq_false (by omega)
    have f6 : decide (9007199254740991 < l) = true := decide_eq_true (by omega)
    clear hx g0 g1 g2 g3 g4 g5 g6
    go_enter Try.func18, Try.ntmps18
    go_wp2
    go_ret
    exact ⟨rfl, bel_al _ _⟩
  omega

set_option maxRecDepth 100000 in
set_option maxHeartbeats 8000000 in
theorem refRight_4 {p t : ByteArray} {c l n : Int} {ls : List Int} {a : Option Addr} {m q : Nat} {w : World} (h : Nm w a m ls) (u : Bool) (hu : u = true ↔ Rt ⟨4, p, t, c, l, n, ls⟩) (hp : p.size ≤ 120) (hc0 : 0 ≤ c) (hc1 : c < 4) (hl0 : 0 ≤ l) (hl1 : l ≤ 9007199254740991) :
    Calls Try.prog 18 #[edV ⟨4, p, t, c, l, n, ls⟩ a m q] w fun x w' => x = .returned (.bool u) ∧ Below w.heap.size w w' := by
  have HN : Hid (ls.length = m) := h.len
  have hlid := h.lid
  unfold maxLen at hlid
  have HC : Hid (Nm (w.alloc (.cells #[.int .i64 4, .string p, .string t, .int .i64 c, .int .i64 l, .int .i64 n, .slice a m q] 32)) a m ls) := h.below (bel_al _ _)
  have HU : Hid (u = true ↔ Rt ⟨4, p, t, c, l, n, ls⟩) := hu
  have eT : toM 4 = 120 := rfl
  have eL : loN 4 = 0 := rfl
  have eH : hiN 4 = 0 := rfl
  have eM : lenM 4 = 0 := rfl
  have HR : Hid (Rt ⟨4, p, t, c, l, n, ls⟩ ↔ t.size ≤ 120 ∧ 0 ≤ n ∧ n ≤ 0 ∧ m ≤ 0 ∧ allB 0 9007199254740991 ls = true) := by
    constructor
    · intro r
      have r1 := r.to
      have r2 := inB_iff.1 r.num
      have r3 := r.few
      have r4 := r.each
      simp only [eT, eL, eH, eM, HN.out] at r1 r2 r3 r4
      exact ⟨r1, r2.1, r2.2, r3, r4⟩
    · rintro ⟨r1, r2, r3, r4, r5⟩
      refine ⟨by simp only; exact inB_yes (by omega) (by omega), hp, by simp only [eT]; exact r1, by simp only; exact inB_yes hc0 (by omega), inB_yes hl0 hl1, by simp only [eL, eH]; exact inB_yes r2 r3, by simp only [eM, HN.out]; exact r4, r5⟩
  have f3 : decide ((120 : Int) < (p.size : Int)) = false := decide_eq_false (by omega)
  have f4 : decide (c < 0) = false := decide_eq_false (by omega)
  have f5 : decide (4 ≤ c) = false := decide_eq_false (by omega)
  have f6 : decide (l < 0) = false := decide_eq_false (by omega)
  have f7 : decide (9007199254740991 < l) = false := decide_eq_false (by omega)
  clear h hu eT eL eH eM hp hc0 hc1 hl0 hl1
  unfold edV
  simp only
  by_cases g8 : 120 < t.size
  · have HV : Hid (u = false) := not_rt HU.out (fun r => by have := HR.out.1 r; omega)
    have f8 : decide ((120 : Int) < (t.size : Int)) = true := decide_eq_true (by omega)
    clear g8 HR HU HC
    go_enter Try.func18, Try.ntmps18
    go_wp2
    go_ret
    exact ⟨congrArg (fun b => Ending.returned (.bool b)) HV.out.symm, bel_al _ _⟩
  have f8 : decide ((120 : Int) < (t.size : Int)) = false := decide_eq_false (by omega)
  have HT : Hid (t.size ≤ 120) := by show t.size ≤ 120; omega
  clear g8
  by_cases g10 : n < 0
  · have HV : Hid (u = false) := not_rt HU.out (fun r => by have := HR.out.1 r; omega)
    have f10 : decide (n < 0) = true := decide_eq_true g10
    clear g10 HR HU HC
    go_enter Try.func18, Try.ntmps18
    go_wp2
    go_ret
    exact ⟨congrArg (fun b => Ending.returned (.bool b)) HV.out.symm, bel_al _ _⟩
  have f10 : decide (n < 0) = false := decide_eq_false g10
  by_cases g11 : 0 < n
  · have HV : Hid (u = false) := not_rt HU.out (fun r => by have := HR.out.1 r; omega)
    have f11 : decide (0 < n) = true := decide_eq_true g11
    clear g10 g11 HR HU HC
    go_enter Try.func18, Try.ntmps18
    go_wp2
    go_ret
    exact ⟨congrArg (fun b => Ending.returned (.bool b)) HV.out.symm, bel_al _ _⟩
  have f11 : decide (0 < n) = false := decide_eq_false g11
  by_cases g12 : 8 < m
  · have HV : Hid (u = false) := not_rt HU.out (fun r => by have := HR.out.1 r; omega)
    have f12 : decide ((8 : Int) < (m : Int)) = true := decide_eq_true (by omega)
    clear g10 g11 g12 HR HU HC
    go_enter Try.func18, Try.ntmps18
    go_wp2
    go_ret
    exact ⟨congrArg (fun b => Ending.returned (.bool b)) HV.out.symm, bel_al _ _⟩
  have f12 : decide ((8 : Int) < (m : Int)) = false := decide_eq_false (by omega)
  by_cases g13 : 0 < m
  · have HV : Hid (u = false) := not_rt HU.out (fun r => by have := HR.out.1 r; omega)
    have f13 : decide (0 < m) = true := decide_eq_true g13
    clear g10 g11 g12 g13 HR HU HC
    go_enter Try.func18, Try.ntmps18
    go_wp2
    go_ret
    exact ⟨congrArg (fun b => Ending.returned (.bool b)) HV.out.symm, bel_al _ _⟩
  have HM : Hid (0 ≤ n ∧ n ≤ 0 ∧ m ≤ 0) := ⟨by omega, by omega, by omega⟩
  have f13 : decide (0 < m) = false := decide_eq_false g13
  clear g13
  clear g10 g11 g12
  go_enter Try.func18, Try.ntmps18
  go_wp2
  go_loopw [5] (fun v5 wr => ∃ i : Nat, i ≤ m ∧ v5 = .int .i64 i ∧ wr = w.alloc (.cells #[.int .i64 4, .string p, .string t, .int .i64 c, .int .i64 l, .int .i64 n, .slice a m q] 32) ∧ allB 0 9007199254740991 (ls.take i) = true) (fun v5 _ => m - (intOf v5).toNat)
  case atStart => exact ⟨0, by omega, rfl, rfl, rfl⟩
  case round =>
    obtain ⟨i, hil, rfl, rfl, hall⟩ := hrel
    have HA : Hid (allB 0 9007199254740991 (ls.take i) = true) := hall
    clear hall f13
    by_cases hlt : i < m
    · have hix : i < ls.length := by rw [HN.out]; exact hlt
      obtain ⟨b, off, rfl, hat⟩ := HC.out.at (by omega)
      have e0 := hat i hix
      have HT1 : Hid (inB 0 ls[i] 9007199254740991 = true → allB 0 9007199254740991 (ls.take (i + 1)) = true) := fun e => all_take hix HA.out e
      have HF1 : Hid (inB 0 ls[i] 9007199254740991 = false → u = false) := fun e => not_rt HU.out (fun r => by have r2 := (HR.out.1 r).2.2.2.2; rw [all_not hix e] at r2; cases r2)
      clear hat
      generalize ls[i] = z at *
      by_cases z0 : z < 0
      · have HV : Hid (u = false) := HF1.out (inB_no (by omega))
        have f14 : decide (z < 0) = true := decide_eq_true z0
        clear z0
        go_wp2
        go_ret
        exact ⟨congrArg (fun b => Ending.returned (.bool b)) HV.out.symm, bel_al _ _⟩
      · have f14 : decide (z < 0) = false := decide_eq_false z0
        by_cases z1 : 9007199254740991 < z
        · have HV : Hid (u = false) := HF1.out (inB_no (by omega))
          have f15 : decide (9007199254740991 < z) = true := decide_eq_true z1
          clear z0 z1
          go_wp2
          go_ret
          exact ⟨congrArg (fun b => Ending.returned (.bool b)) HV.out.symm, bel_al _ _⟩
        · have f15 : decide (9007199254740991 < z) = false := decide_eq_false z1
          have HZ : Hid _ := HT1.out (inB_yes (by omega) (by omega))
          clear z0 z1 HT1 HF1
          go_wp2
          go_roundw
          case rel => exact ⟨i + 1, by omega, by go_num, by simp, HZ.out⟩
          case measure => simp [intOf]; omega
    · obtain rfl : i = m := by omega
      have hgd : decide ((i : Int) < (i : Int)) = false := decide_eq_false (by omega)
      have hz := HA.out
      rw [List.take_of_length_le (by rw [HN.out]; omega)] at hz
      have HV : Hid (u = true) := HU.out.2 (HR.out.2 ⟨HT.out, HM.out.1, HM.out.2.1, HM.out.2.2, hz⟩)
      clear hlt hz
      go_wp2
      go_ret
      exact ⟨congrArg (fun b => Ending.returned (.bool b)) HV.out.symm, bel_al _ _⟩

set_option maxRecDepth 100000 in
set_option maxHeartbeats 8000000 in
theorem refRight_5 {p t : ByteArray} {c l n : Int} {ls : List Int} {a : Option Addr} {m q : Nat} {w : World} (h : Nm w a m ls) (u : Bool) (hu : u = true ↔ Rt ⟨5, p, t, c, l, n, ls⟩) (hp : p.size ≤ 120) (hc0 : 0 ≤ c) (hc1 : c < 4) (hl0 : 0 ≤ l) (hl1 : l ≤ 9007199254740991) :
    Calls Try.prog 18 #[edV ⟨5, p, t, c, l, n, ls⟩ a m q] w fun x w' => x = .returned (.bool u) ∧ Below w.heap.size w w' := by
  have HN : Hid (ls.length = m) := h.len
  have hlid := h.lid
  unfold maxLen at hlid
  have HC : Hid (Nm (w.alloc (.cells #[.int .i64 5, .string p, .string t, .int .i64 c, .int .i64 l, .int .i64 n, .slice a m q] 32)) a m ls) := h.below (bel_al _ _)
  have HU : Hid (u = true ↔ Rt ⟨5, p, t, c, l, n, ls⟩) := hu
  have eT : toM 5 = 0 := rfl
  have eL : loN 5 = 0 := rfl
  have eH : hiN 5 = 0 := rfl
  have eM : lenM 5 = 8 := rfl
  have HR : Hid (Rt ⟨5, p, t, c, l, n, ls⟩ ↔ t.size ≤ 0 ∧ 0 ≤ n ∧ n ≤ 0 ∧ m ≤ 8 ∧ allB 0 9007199254740991 ls = true) := by
    constructor
    · intro r
      have r1 := r.to
      have r2 := inB_iff.1 r.num
      have r3 := r.few
      have r4 := r.each
      simp only [eT, eL, eH, eM, HN.out] at r1 r2 r3 r4
      exact ⟨r1, r2.1, r2.2, r3, r4⟩
    · rintro ⟨r1, r2, r3, r4, r5⟩
      refine ⟨by simp only; exact inB_yes (by omega) (by omega), hp, by simp only [eT]; exact r1, by simp only; exact inB_yes hc0 (by omega), inB_yes hl0 hl1, by simp only [eL, eH]; exact inB_yes r2 r3, by simp only [eM, HN.out]; exact r4, r5⟩
  have f3 : decide ((120 : Int) < (p.size : Int)) = false := decide_eq_false (by omega)
  have f4 : decide (c < 0) = false := decide_eq_false (by omega)
  have f5 : decide (4 ≤ c) = false := decide_eq_false (by omega)
  have f6 : decide (l < 0) = false := decide_eq_false (by omega)
  have f7 : decide (9007199254740991 < l) = false := decide_eq_false (by omega)
  clear h hu eT eL eH eM hp hc0 hc1 hl0 hl1
  unfold edV
  simp only
  by_cases g8 : 120 < t.size
  · have HV : Hid (u = false) := not_rt HU.out (fun r => by have := HR.out.1 r; omega)
    have f8 : decide ((120 : Int) < (t.size : Int)) = true := decide_eq_true (by omega)
    clear g8 HR HU HC
    go_enter Try.func18, Try.ntmps18
    go_wp2
    go_ret
    exact ⟨congrArg (fun b => Ending.returned (.bool b)) HV.out.symm, bel_al _ _⟩
  have f8 : decide ((120 : Int) < (t.size : Int)) = false := decide_eq_false (by omega)
  by_cases g9 : t.size = 0
  rotate_left
  · have f9 := text_empty (r := t) (decide_eq_false g9)
    have HV : Hid (u = false) := not_rt HU.out (fun r => by have := HR.out.1 r; omega)
    clear g8 g9 HR HU HC
    go_enter Try.func18, Try.ntmps18
    go_wp2
    go_ret
    exact ⟨congrArg (fun b => Ending.returned (.bool b)) HV.out.symm, bel_al _ _⟩
  have f9 := text_empty (r := t) (decide_eq_true g9)
  have HT : Hid (t.size ≤ 0) := by show t.size ≤ 0; omega
  clear g8 g9
  by_cases g10 : n < 0
  · have HV : Hid (u = false) := not_rt HU.out (fun r => by have := HR.out.1 r; omega)
    have f10 : decide (n < 0) = true := decide_eq_true g10
    clear g10 HR HU HC
    go_enter Try.func18, Try.ntmps18
    go_wp2
    go_ret
    exact ⟨congrArg (fun b => Ending.returned (.bool b)) HV.out.symm, bel_al _ _⟩
  have f10 : decide (n < 0) = false := decide_eq_false g10
  by_cases g11 : 0 < n
  · have HV : Hid (u = false) := not_rt HU.out (fun r => by have := HR.out.1 r; omega)
    have f11 : decide (0 < n) = true := decide_eq_true g11
    clear g10 g11 HR HU HC
    go_enter Try.func18, Try.ntmps18
    go_wp2
    go_ret
    exact ⟨congrArg (fun b => Ending.returned (.bool b)) HV.out.symm, bel_al _ _⟩
  have f11 : decide (0 < n) = false := decide_eq_false g11
  by_cases g12 : 8 < m
  · have HV : Hid (u = false) := not_rt HU.out (fun r => by have := HR.out.1 r; omega)
    have f12 : decide ((8 : Int) < (m : Int)) = true := decide_eq_true (by omega)
    clear g10 g11 g12 HR HU HC
    go_enter Try.func18, Try.ntmps18
    go_wp2
    go_ret
    exact ⟨congrArg (fun b => Ending.returned (.bool b)) HV.out.symm, bel_al _ _⟩
  have f12 : decide ((8 : Int) < (m : Int)) = false := decide_eq_false (by omega)
  have HM : Hid (0 ≤ n ∧ n ≤ 0 ∧ m ≤ 8) := ⟨by omega, by omega, by omega⟩
  by_cases g13 : 0 < m
  · have f13 : decide (0 < m) = true := decide_eq_true g13
    clear g13
    clear g10 g11 g12
    go_enter Try.func18, Try.ntmps18
    go_wp2
    go_loopw [5] (fun v5 wr => ∃ i : Nat, i ≤ m ∧ v5 = .int .i64 i ∧ wr = w.alloc (.cells #[.int .i64 5, .string p, .string t, .int .i64 c, .int .i64 l, .int .i64 n, .slice a m q] 32) ∧ allB 0 9007199254740991 (ls.take i) = true) (fun v5 _ => m - (intOf v5).toNat)
    case atStart => exact ⟨0, by omega, rfl, rfl, rfl⟩
    case round =>
      obtain ⟨i, hil, rfl, rfl, hall⟩ := hrel
      have HA : Hid (allB 0 9007199254740991 (ls.take i) = true) := hall
      clear hall f13
      by_cases hlt : i < m
      · have hix : i < ls.length := by rw [HN.out]; exact hlt
        obtain ⟨b, off, rfl, hat⟩ := HC.out.at (by omega)
        have e0 := hat i hix
        have HT1 : Hid (inB 0 ls[i] 9007199254740991 = true → allB 0 9007199254740991 (ls.take (i + 1)) = true) := fun e => all_take hix HA.out e
        have HF1 : Hid (inB 0 ls[i] 9007199254740991 = false → u = false) := fun e => not_rt HU.out (fun r => by have r2 := (HR.out.1 r).2.2.2.2; rw [all_not hix e] at r2; cases r2)
        clear hat
        generalize ls[i] = z at *
        by_cases z0 : z < 0
        · have HV : Hid (u = false) := HF1.out (inB_no (by omega))
          have f14 : decide (z < 0) = true := decide_eq_true z0
          clear z0
          go_wp2
          go_ret
          exact ⟨congrArg (fun b => Ending.returned (.bool b)) HV.out.symm, bel_al _ _⟩
        · have f14 : decide (z < 0) = false := decide_eq_false z0
          by_cases z1 : 9007199254740991 < z
          · have HV : Hid (u = false) := HF1.out (inB_no (by omega))
            have f15 : decide (9007199254740991 < z) = true := decide_eq_true z1
            clear z0 z1
            go_wp2
            go_ret
            exact ⟨congrArg (fun b => Ending.returned (.bool b)) HV.out.symm, bel_al _ _⟩
          · have f15 : decide (9007199254740991 < z) = false := decide_eq_false z1
            have HZ : Hid _ := HT1.out (inB_yes (by omega) (by omega))
            clear z0 z1 HT1 HF1
            go_wp2
            go_roundw
            case rel => exact ⟨i + 1, by omega, by go_num, by simp, HZ.out⟩
            case measure => simp [intOf]; omega
      · obtain rfl : i = m := by omega
        have hgd : decide ((i : Int) < (i : Int)) = false := decide_eq_false (by omega)
        have hz := HA.out
        rw [List.take_of_length_le (by rw [HN.out]; omega)] at hz
        have HV : Hid (u = true) := HU.out.2 (HR.out.2 ⟨HT.out, HM.out.1, HM.out.2.1, HM.out.2.2, hz⟩)
        clear hlt hz
        go_wp2
        go_ret
        exact ⟨congrArg (fun b => Ending.returned (.bool b)) HV.out.symm, bel_al _ _⟩
  · have f13 : decide (0 < m) = false := decide_eq_false g13
    clear g13
    clear g10 g11 g12
    go_enter Try.func18, Try.ntmps18
    go_wp2
    go_loopw [5] (fun v5 wr => ∃ i : Nat, i ≤ m ∧ v5 = .int .i64 i ∧ wr = w.alloc (.cells #[.int .i64 5, .string p, .string t, .int .i64 c, .int .i64 l, .int .i64 n, .slice a m q] 32) ∧ allB 0 9007199254740991 (ls.take i) = true) (fun v5 _ => m - (intOf v5).toNat)
    case atStart => exact ⟨0, by omega, rfl, rfl, rfl⟩
    case round =>
      obtain ⟨i, hil, rfl, rfl, hall⟩ := hrel
      have HA : Hid (allB 0 9007199254740991 (ls.take i) = true) := hall
      clear hall f13
      by_cases hlt : i < m
      · have hix : i < ls.length := by rw [HN.out]; exact hlt
        obtain ⟨b, off, rfl, hat⟩ := HC.out.at (by omega)
        have e0 := hat i hix
        have HT1 : Hid (inB 0 ls[i] 9007199254740991 = true → allB 0 9007199254740991 (ls.take (i + 1)) = true) := fun e => all_take hix HA.out e
        have HF1 : Hid (inB 0 ls[i] 9007199254740991 = false → u = false) := fun e => not_rt HU.out (fun r => by have r2 := (HR.out.1 r).2.2.2.2; rw [all_not hix e] at r2; cases r2)
        clear hat
        generalize ls[i] = z at *
        by_cases z0 : z < 0
        · have HV : Hid (u = false) := HF1.out (inB_no (by omega))
          have f14 : decide (z < 0) = true := decide_eq_true z0
          clear z0
          go_wp2
          go_ret
          exact ⟨congrArg (fun b => Ending.returned (.bool b)) HV.out.symm, bel_al _ _⟩
        · have f14 : decide (z < 0) = false := decide_eq_false z0
          by_cases z1 : 9007199254740991 < z
          · have HV : Hid (u = false) := HF1.out (inB_no (by omega))
            have f15 : decide (9007199254740991 < z) = true := decide_eq_true z1
            clear z0 z1
            go_wp2
            go_ret
            exact ⟨congrArg (fun b => Ending.returned (.bool b)) HV.out.symm, bel_al _ _⟩
          · have f15 : decide (9007199254740991 < z) = false := decide_eq_false z1
            have HZ : Hid _ := HT1.out (inB_yes (by omega) (by omega))
            clear z0 z1 HT1 HF1
            go_wp2
            go_roundw
            case rel => exact ⟨i + 1, by omega, by go_num, by simp, HZ.out⟩
            case measure => simp [intOf]; omega
      · obtain rfl : i = m := by omega
        have hgd : decide ((i : Int) < (i : Int)) = false := decide_eq_false (by omega)
        have hz := HA.out
        rw [List.take_of_length_le (by rw [HN.out]; omega)] at hz
        have HV : Hid (u = true) := HU.out.2 (HR.out.2 ⟨HT.out, HM.out.1, HM.out.2.1, HM.out.2.2, hz⟩)
        clear hlt hz
        go_wp2
        go_ret
        exact ⟨congrArg (fun b => Ending.returned (.bool b)) HV.out.symm, bel_al _ _⟩

set_option maxRecDepth 100000 in
set_option maxHeartbeats 8000000 in
theorem refRight_6 {p t : ByteArray} {c l n : Int} {ls : List Int} {a : Option Addr} {m q : Nat} {w : World} (h : Nm w a m ls) (u : Bool) (hu : u = true ↔ Rt ⟨6, p, t, c, l, n, ls⟩) (hp : p.size ≤ 120) (hc0 : 0 ≤ c) (hc1 : c < 4) (hl0 : 0 ≤ l) (hl1 : l ≤ 9007199254740991) :
    Calls Try.prog 18 #[edV ⟨6, p, t, c, l, n, ls⟩ a m q] w fun x w' => x = .returned (.bool u) ∧ Below w.heap.size w w' := by
  have HN : Hid (ls.length = m) := h.len
  have hlid := h.lid
  unfold maxLen at hlid
  have HC : Hid (Nm (w.alloc (.cells #[.int .i64 6, .string p, .string t, .int .i64 c, .int .i64 l, .int .i64 n, .slice a m q] 32)) a m ls) := h.below (bel_al _ _)
  have HU : Hid (u = true ↔ Rt ⟨6, p, t, c, l, n, ls⟩) := hu
  have eT : toM 6 = 0 := rfl
  have eL : loN 6 = 0 := rfl
  have eH : hiN 6 = 0 := rfl
  have eM : lenM 6 = 8 := rfl
  have HR : Hid (Rt ⟨6, p, t, c, l, n, ls⟩ ↔ t.size ≤ 0 ∧ 0 ≤ n ∧ n ≤ 0 ∧ m ≤ 8 ∧ allB 0 9007199254740991 ls = true) := by
    constructor
    · intro r
      have r1 := r.to
      have r2 := inB_iff.1 r.num
      have r3 := r.few
      have r4 := r.each
      simp only [eT, eL, eH, eM, HN.out] at r1 r2 r3 r4
      exact ⟨r1, r2.1, r2.2, r3, r4⟩
    · rintro ⟨r1, r2, r3, r4, r5⟩
      refine ⟨by simp only; exact inB_yes (by omega) (by omega), hp, by simp only [eT]; exact r1, by simp only; exact inB_yes hc0 (by omega), inB_yes hl0 hl1, by simp only [eL, eH]; exact inB_yes r2 r3, by simp only [eM, HN.out]; exact r4, r5⟩
  have f3 : decide ((120 : Int) < (p.size : Int)) = false := decide_eq_false (by omega)
  have f4 : decide (c < 0) = false := decide_eq_false (by omega)
  have f5 : decide (4 ≤ c) = false := decide_eq_false (by omega)
  have f6 : decide (l < 0) = false := decide_eq_false (by omega)
  have f7 : decide (9007199254740991 < l) = false := decide_eq_false (by omega)
  clear h hu eT eL eH eM hp hc0 hc1 hl0 hl1
  unfold edV
  simp only
  by_cases g8 : 120 < t.size
  · have HV : Hid (u = false) := not_rt HU.out (fun r => by have := HR.out.1 r; omega)
    have f8 : decide ((120 : Int) < (t.size : Int)) = true := decide_eq_true (by omega)
    clear g8 HR HU HC
    go_enter Try.func18, Try.ntmps18
    go_wp2
    go_ret
    exact ⟨congrArg (fun b => Ending.returned (.bool b)) HV.out.symm, bel_al _ _⟩
  have f8 : decide ((120 : Int) < (t.size : Int)) = false := decide_eq_false (by omega)
  by_cases g9 : t.size = 0
  rotate_left
  · have f9 := text_empty (r := t) (decide_eq_false g9)
    have HV : Hid (u = false) := not_rt HU.out (fun r => by have := HR.out.1 r; omega)
    clear g8 g9 HR HU HC
    go_enter Try.func18, Try.ntmps18
    go_wp2
    go_ret
    exact ⟨congrArg (fun b => Ending.returned (.bool b)) HV.out.symm, bel_al _ _⟩
  have f9 := text_empty (r := t) (decide_eq_true g9)
  have HT : Hid (t.size ≤ 0) := by show t.size ≤ 0; omega
  clear g8 g9
  by_cases g10 : n < 0
  · have HV : Hid (u = false) := not_rt HU.out (fun r => by have := HR.out.1 r; omega)
    have f10 : decide (n < 0) = true := decide_eq_true g10
    clear g10 HR HU HC
    go_enter Try.func18, Try.ntmps18
    go_wp2
    go_ret
    exact ⟨congrArg (fun b => Ending.returned (.bool b)) HV.out.symm, bel_al _ _⟩
  have f10 : decide (n < 0) = false := decide_eq_false g10
  by_cases g11 : 0 < n
  · have HV : Hid (u = false) := not_rt HU.out (fun r => by have := HR.out.1 r; omega)
    have f11 : decide (0 < n) = true := decide_eq_true g11
    clear g10 g11 HR HU HC
    go_enter Try.func18, Try.ntmps18
    go_wp2
    go_ret
    exact ⟨congrArg (fun b => Ending.returned (.bool b)) HV.out.symm, bel_al _ _⟩
  have f11 : decide (0 < n) = false := decide_eq_false g11
  by_cases g12 : 8 < m
  · have HV : Hid (u = false) := not_rt HU.out (fun r => by have := HR.out.1 r; omega)
    have f12 : decide ((8 : Int) < (m : Int)) = true := decide_eq_true (by omega)
    clear g10 g11 g12 HR HU HC
    go_enter Try.func18, Try.ntmps18
    go_wp2
    go_ret
    exact ⟨congrArg (fun b => Ending.returned (.bool b)) HV.out.symm, bel_al _ _⟩
  have f12 : decide ((8 : Int) < (m : Int)) = false := decide_eq_false (by omega)
  have HM : Hid (0 ≤ n ∧ n ≤ 0 ∧ m ≤ 8) := ⟨by omega, by omega, by omega⟩
  by_cases g13 : 0 < m
  · have f13 : decide (0 < m) = true := decide_eq_true g13
    clear g13
    clear g10 g11 g12
    go_enter Try.func18, Try.ntmps18
    go_wp2
    go_loopw [5] (fun v5 wr => ∃ i : Nat, i ≤ m ∧ v5 = .int .i64 i ∧ wr = w.alloc (.cells #[.int .i64 6, .string p, .string t, .int .i64 c, .int .i64 l, .int .i64 n, .slice a m q] 32) ∧ allB 0 9007199254740991 (ls.take i) = true) (fun v5 _ => m - (intOf v5).toNat)
    case atStart => exact ⟨0, by omega, rfl, rfl, rfl⟩
    case round =>
      obtain ⟨i, hil, rfl, rfl, hall⟩ := hrel
      have HA : Hid (allB 0 9007199254740991 (ls.take i) = true) := hall
      clear hall f13
      by_cases hlt : i < m
      · have hix : i < ls.length := by rw [HN.out]; exact hlt
        obtain ⟨b, off, rfl, hat⟩ := HC.out.at (by omega)
        have e0 := hat i hix
        have HT1 : Hid (inB 0 ls[i] 9007199254740991 = true → allB 0 9007199254740991 (ls.take (i + 1)) = true) := fun e => all_take hix HA.out e
        have HF1 : Hid (inB 0 ls[i] 9007199254740991 = false → u = false) := fun e => not_rt HU.out (fun r => by have r2 := (HR.out.1 r).2.2.2.2; rw [all_not hix e] at r2; cases r2)
        clear hat
        generalize ls[i] = z at *
        by_cases z0 : z < 0
        · have HV : Hid (u = false) := HF1.out (inB_no (by omega))
          have f14 : decide (z < 0) = true := decide_eq_true z0
          clear z0
          go_wp2
          go_ret
          exact ⟨congrArg (fun b => Ending.returned (.bool b)) HV.out.symm, bel_al _ _⟩
        · have f14 : decide (z < 0) = false := decide_eq_false z0
          by_cases z1 : 9007199254740991 < z
          · have HV : Hid (u = false) := HF1.out (inB_no (by omega))
            have f15 : decide (9007199254740991 < z) = true := decide_eq_true z1
            clear z0 z1
            go_wp2
            go_ret
            exact ⟨congrArg (fun b => Ending.returned (.bool b)) HV.out.symm, bel_al _ _⟩
          · have f15 : decide (9007199254740991 < z) = false := decide_eq_false z1
            have HZ : Hid _ := HT1.out (inB_yes (by omega) (by omega))
            clear z0 z1 HT1 HF1
            go_wp2
            go_roundw
            case rel => exact ⟨i + 1, by omega, by go_num, by simp, HZ.out⟩
            case measure => simp [intOf]; omega
      · obtain rfl : i = m := by omega
        have hgd : decide ((i : Int) < (i : Int)) = false := decide_eq_false (by omega)
        have hz := HA.out
        rw [List.take_of_length_le (by rw [HN.out]; omega)] at hz
        have HV : Hid (u = true) := HU.out.2 (HR.out.2 ⟨HT.out, HM.out.1, HM.out.2.1, HM.out.2.2, hz⟩)
        clear hlt hz
        go_wp2
        go_ret
        exact ⟨congrArg (fun b => Ending.returned (.bool b)) HV.out.symm, bel_al _ _⟩
  · have f13 : decide (0 < m) = false := decide_eq_false g13
    clear g13
    clear g10 g11 g12
    go_enter Try.func18, Try.ntmps18
    go_wp2
    go_loopw [5] (fun v5 wr => ∃ i : Nat, i ≤ m ∧ v5 = .int .i64 i ∧ wr = w.alloc (.cells #[.int .i64 6, .string p, .string t, .int .i64 c, .int .i64 l, .int .i64 n, .slice a m q] 32) ∧ allB 0 9007199254740991 (ls.take i) = true) (fun v5 _ => m - (intOf v5).toNat)
    case atStart => exact ⟨0, by omega, rfl, rfl, rfl⟩
    case round =>
      obtain ⟨i, hil, rfl, rfl, hall⟩ := hrel
      have HA : Hid (allB 0 9007199254740991 (ls.take i) = true) := hall
      clear hall f13
      by_cases hlt : i < m
      · have hix : i < ls.length := by rw [HN.out]; exact hlt
        obtain ⟨b, off, rfl, hat⟩ := HC.out.at (by omega)
        have e0 := hat i hix
        have HT1 : Hid (inB 0 ls[i] 9007199254740991 = true → allB 0 9007199254740991 (ls.take (i + 1)) = true) := fun e => all_take hix HA.out e
        have HF1 : Hid (inB 0 ls[i] 9007199254740991 = false → u = false) := fun e => not_rt HU.out (fun r => by have r2 := (HR.out.1 r).2.2.2.2; rw [all_not hix e] at r2; cases r2)
        clear hat
        generalize ls[i] = z at *
        by_cases z0 : z < 0
        · have HV : Hid (u = false) := HF1.out (inB_no (by omega))
          have f14 : decide (z < 0) = true := decide_eq_true z0
          clear z0
          go_wp2
          go_ret
          exact ⟨congrArg (fun b => Ending.returned (.bool b)) HV.out.symm, bel_al _ _⟩
        · have f14 : decide (z < 0) = false := decide_eq_false z0
          by_cases z1 : 9007199254740991 < z
          · have HV : Hid (u = false) := HF1.out (inB_no (by omega))
            have f15 : decide (9007199254740991 < z) = true := decide_eq_true z1
            clear z0 z1
            go_wp2
            go_ret
            exact ⟨congrArg (fun b => Ending.returned (.bool b)) HV.out.symm, bel_al _ _⟩
          · have f15 : decide (9007199254740991 < z) = false := decide_eq_false z1
            have HZ : Hid _ := HT1.out (inB_yes (by omega) (by omega))
            clear z0 z1 HT1 HF1
            go_wp2
            go_roundw
            case rel => exact ⟨i + 1, by omega, by go_num, by simp, HZ.out⟩
            case measure => simp [intOf]; omega
      · obtain rfl : i = m := by omega
        have hgd : decide ((i : Int) < (i : Int)) = false := decide_eq_false (by omega)
        have hz := HA.out
        rw [List.take_of_length_le (by rw [HN.out]; omega)] at hz
        have HV : Hid (u = true) := HU.out.2 (HR.out.2 ⟨HT.out, HM.out.1, HM.out.2.1, HM.out.2.2, hz⟩)
        clear hlt hz
        go_wp2
        go_ret
        exact ⟨congrArg (fun b => Ending.returned (.bool b)) HV.out.symm, bel_al _ _⟩

set_option maxRecDepth 100000 in
set_option maxHeartbeats 8000000 in
theorem refRight_7 {p t : ByteArray} {c l n : Int} {ls : List Int} {a : Option Addr} {m q : Nat} {w : World} (h : Nm w a m ls) (u : Bool) (hu : u = true ↔ Rt ⟨7, p, t, c, l, n, ls⟩) (hp : p.size ≤ 120) (hc0 : 0 ≤ c) (hc1 : c < 4) (hl0 : 0 ≤ l) (hl1 : l ≤ 9007199254740991) :
    Calls Try.prog 18 #[edV ⟨7, p, t, c, l, n, ls⟩ a m q] w fun x w' => x = .returned (.bool u) ∧ Below w.heap.size w w' := by
  have HN : Hid (ls.length = m) := h.len
  have hlid := h.lid
  unfold maxLen at hlid
  have HC : Hid (Nm (w.alloc (.cells #[.int .i64 7, .string p, .string t, .int .i64 c, .int .i64 l, .int .i64 n, .slice a m q] 32)) a m ls) := h.below (bel_al _ _)
  have HU : Hid (u = true ↔ Rt ⟨7, p, t, c, l, n, ls⟩) := hu
  have eT : toM 7 = 0 := rfl
  have eL : loN 7 = (-1) := rfl
  have eH : hiN 7 = 9007199254740991 := rfl
  have eM : lenM 7 = 0 := rfl
  have HR : Hid (Rt ⟨7, p, t, c, l, n, ls⟩ ↔ t.size ≤ 0 ∧ (-1) ≤ n ∧ n ≤ 9007199254740991 ∧ m ≤ 0 ∧ allB 0 9007199254740991 ls = true) := by
    constructor
    · intro r
      have r1 := r.to
      have r2 := inB_iff.1 r.num
      have r3 := r.few
      have r4 := r.each
      simp only [eT, eL, eH, eM, HN.out] at r1 r2 r3 r4
      exact ⟨r1, r2.1, r2.2, r3, r4⟩
    · rintro ⟨r1, r2, r3, r4, r5⟩
      refine ⟨by simp only; exact inB_yes (by omega) (by omega), hp, by simp only [eT]; exact r1, by simp only; exact inB_yes hc0 (by omega), inB_yes hl0 hl1, by simp only [eL, eH]; exact inB_yes r2 r3, by simp only [eM, HN.out]; exact r4, r5⟩
  have f3 : decide ((120 : Int) < (p.size : Int)) = false := decide_eq_false (by omega)
  have f4 : decide (c < 0) = false := decide_eq_false (by omega)
  have f5 : decide (4 ≤ c) = false := decide_eq_false (by omega)
  have f6 : decide (l < 0) = false := decide_eq_false (by omega)
  have f7 : decide (9007199254740991 < l) = false := decide_eq_false (by omega)
  clear h hu eT eL eH eM hp hc0 hc1 hl0 hl1
  unfold edV
  simp only
  by_cases g8 : 120 < t.size
  · have HV : Hid (u = false) := not_rt HU.out (fun r => by have := HR.out.1 r; omega)
    have f8 : decide ((120 : Int) < (t.size : Int)) = true := decide_eq_true (by omega)
    clear g8 HR HU HC
    go_enter Try.func18, Try.ntmps18
    go_wp2
    go_ret
    exact ⟨congrArg (fun b => Ending.returned (.bool b)) HV.out.symm, bel_al _ _⟩
  have f8 : decide ((120 : Int) < (t.size : Int)) = false := decide_eq_false (by omega)
  by_cases g9 : t.size = 0
  rotate_left
  · have f9 := text_empty (r := t) (decide_eq_false g9)
    have HV : Hid (u = false) := not_rt HU.out (fun r => by have := HR.out.1 r; omega)
    clear g8 g9 HR HU HC
    go_enter Try.func18, Try.ntmps18
    go_wp2
    go_ret
    exact ⟨congrArg (fun b => Ending.returned (.bool b)) HV.out.symm, bel_al _ _⟩
  have f9 := text_empty (r := t) (decide_eq_true g9)
  have HT : Hid (t.size ≤ 0) := by show t.size ≤ 0; omega
  clear g8 g9
  by_cases g10 : n < (-1)
  · have HV : Hid (u = false) := not_rt HU.out (fun r => by have := HR.out.1 r; omega)
    have f10 : decide (n < (-1)) = true := decide_eq_true g10
    clear g10 HR HU HC
    go_enter Try.func18, Try.ntmps18
    go_wp2
    go_ret
    exact ⟨congrArg (fun b => Ending.returned (.bool b)) HV.out.symm, bel_al _ _⟩
  have f10 : decide (n < (-1)) = false := decide_eq_false g10
  by_cases g11 : 9007199254740991 < n
  · have HV : Hid (u = false) := not_rt HU.out (fun r => by have := HR.out.1 r; omega)
    have f11 : decide (9007199254740991 < n) = true := decide_eq_true g11
    clear g10 g11 HR HU HC
    go_enter Try.func18, Try.ntmps18
    go_wp2
    go_ret
    exact ⟨congrArg (fun b => Ending.returned (.bool b)) HV.out.symm, bel_al _ _⟩
  have f11 : decide (9007199254740991 < n) = false := decide_eq_false g11
  by_cases g12 : 8 < m
  · have HV : Hid (u = false) := not_rt HU.out (fun r => by have := HR.out.1 r; omega)
    have f12 : decide ((8 : Int) < (m : Int)) = true := decide_eq_true (by omega)
    clear g10 g11 g12 HR HU HC
    go_enter Try.func18, Try.ntmps18
    go_wp2
    go_ret
    exact ⟨congrArg (fun b => Ending.returned (.bool b)) HV.out.symm, bel_al _ _⟩
  have f12 : decide ((8 : Int) < (m : Int)) = false := decide_eq_false (by omega)
  by_cases g13 : 0 < m
  · have HV : Hid (u = false) := not_rt HU.out (fun r => by have := HR.out.1 r; omega)
    have f13 : decide (0 < m) = true := decide_eq_true g13
    clear g10 g11 g12 g13 HR HU HC
    go_enter Try.func18, Try.ntmps18
    go_wp2
    go_ret
    exact ⟨congrArg (fun b => Ending.returned (.bool b)) HV.out.symm, bel_al _ _⟩
  have HM : Hid ((-1) ≤ n ∧ n ≤ 9007199254740991 ∧ m ≤ 0) := ⟨by omega, by omega, by omega⟩
  have f13 : decide (0 < m) = false := decide_eq_false g13
  clear g13
  clear g10 g11 g12
  go_enter Try.func18, Try.ntmps18
  go_wp2
  go_loopw [5] (fun v5 wr => ∃ i : Nat, i ≤ m ∧ v5 = .int .i64 i ∧ wr = w.alloc (.cells #[.int .i64 7, .string p, .string t, .int .i64 c, .int .i64 l, .int .i64 n, .slice a m q] 32) ∧ allB 0 9007199254740991 (ls.take i) = true) (fun v5 _ => m - (intOf v5).toNat)
  case atStart => exact ⟨0, by omega, rfl, rfl, rfl⟩
  case round =>
    obtain ⟨i, hil, rfl, rfl, hall⟩ := hrel
    have HA : Hid (allB 0 9007199254740991 (ls.take i) = true) := hall
    clear hall f13
    by_cases hlt : i < m
    · have hix : i < ls.length := by rw [HN.out]; exact hlt
      obtain ⟨b, off, rfl, hat⟩ := HC.out.at (by omega)
      have e0 := hat i hix
      have HT1 : Hid (inB 0 ls[i] 9007199254740991 = true → allB 0 9007199254740991 (ls.take (i + 1)) = true) := fun e => all_take hix HA.out e
      have HF1 : Hid (inB 0 ls[i] 9007199254740991 = false → u = false) := fun e => not_rt HU.out (fun r => by have r2 := (HR.out.1 r).2.2.2.2; rw [all_not hix e] at r2; cases r2)
      clear hat
      generalize ls[i] = z at *
      by_cases z0 : z < 0
      · have HV : Hid (u = false) := HF1.out (inB_no (by omega))
        have f14 : decide (z < 0) = true := decide_eq_true z0
        clear z0
        go_wp2
        go_ret
        exact ⟨congrArg (fun b => Ending.returned (.bool b)) HV.out.symm, bel_al _ _⟩
      · have f14 : decide (z < 0) = false := decide_eq_false z0
        by_cases z1 : 9007199254740991 < z
        · have HV : Hid (u = false) := HF1.out (inB_no (by omega))
          have f15 : decide (9007199254740991 < z) = true := decide_eq_true z1
          clear z0 z1
          go_wp2
          go_ret
          exact ⟨congrArg (fun b => Ending.returned (.bool b)) HV.out.symm, bel_al _ _⟩
        · have f15 : decide (9007199254740991 < z) = false := decide_eq_false z1
          have HZ : Hid _ := HT1.out (inB_yes (by omega) (by omega))
          clear z0 z1 HT1 HF1
          go_wp2
          go_roundw
          case rel => exact ⟨i + 1, by omega, by go_num, by simp, HZ.out⟩
          case measure => simp [intOf]; omega
    · obtain rfl : i = m := by omega
      have hgd : decide ((i : Int) < (i : Int)) = false := decide_eq_false (by omega)
      have hz := HA.out
      rw [List.take_of_length_le (by rw [HN.out]; omega)] at hz
      have HV : Hid (u = true) := HU.out.2 (HR.out.2 ⟨HT.out, HM.out.1, HM.out.2.1, HM.out.2.2, hz⟩)
      clear hlt hz
      go_wp2
      go_ret
      exact ⟨congrArg (fun b => Ending.returned (.bool b)) HV.out.symm, bel_al _ _⟩

set_option maxRecDepth 100000 in
set_option maxHeartbeats 8000000 in
theorem refRight_8 {p t : ByteArray} {c l n : Int} {ls : List Int} {a : Option Addr} {m q : Nat} {w : World} (h : Nm w a m ls) (u : Bool) (hu : u = true ↔ Rt ⟨8, p, t, c, l, n, ls⟩) (hp : p.size ≤ 120) (hc0 : 0 ≤ c) (hc1 : c < 4) (hl0 : 0 ≤ l) (hl1 : l ≤ 9007199254740991) :
    Calls Try.prog 18 #[edV ⟨8, p, t, c, l, n, ls⟩ a m q] w fun x w' => x = .returned (.bool u) ∧ Below w.heap.size w w' := by
  have HN : Hid (ls.length = m) := h.len
  have hlid := h.lid
  unfold maxLen at hlid
  have HC : Hid (Nm (w.alloc (.cells #[.int .i64 8, .string p, .string t, .int .i64 c, .int .i64 l, .int .i64 n, .slice a m q] 32)) a m ls) := h.below (bel_al _ _)
  have HU : Hid (u = true ↔ Rt ⟨8, p, t, c, l, n, ls⟩) := hu
  have eT : toM 8 = 0 := rfl
  have eL : loN 8 = 0 := rfl
  have eH : hiN 8 = 9007199254740991 := rfl
  have eM : lenM 8 = 0 := rfl
  have HR : Hid (Rt ⟨8, p, t, c, l, n, ls⟩ ↔ t.size ≤ 0 ∧ 0 ≤ n ∧ n ≤ 9007199254740991 ∧ m ≤ 0 ∧ allB 0 9007199254740991 ls = true) := by
    constructor
    · intro r
      have r1 := r.to
      have r2 := inB_iff.1 r.num
      have r3 := r.few
      have r4 := r.each
      simp only [eT, eL, eH, eM, HN.out] at r1 r2 r3 r4
      exact ⟨r1, r2.1, r2.2, r3, r4⟩
    · rintro ⟨r1, r2, r3, r4, r5⟩
      refine ⟨by simp only; exact inB_yes (by omega) (by omega), hp, by simp only [eT]; exact r1, by simp only; exact inB_yes hc0 (by omega), inB_yes hl0 hl1, by simp only [eL, eH]; exact inB_yes r2 r3, by simp only [eM, HN.out]; exact r4, r5⟩
  have f3 : decide ((120 : Int) < (p.size : Int)) = false := decide_eq_false (by omega)
  have f4 : decide (c < 0) = false := decide_eq_false (by omega)
  have f5 : decide (4 ≤ c) = false := decide_eq_false (by omega)
  have f6 : decide (l < 0) = false := decide_eq_false (by omega)
  have f7 : decide (9007199254740991 < l) = false := decide_eq_false (by omega)
  clear h hu eT eL eH eM hp hc0 hc1 hl0 hl1
  unfold edV
  simp only
  by_cases g8 : 120 < t.size
  · have HV : Hid (u = false) := not_rt HU.out (fun r => by have := HR.out.1 r; omega)
    have f8 : decide ((120 : Int) < (t.size : Int)) = true := decide_eq_true (by omega)
    clear g8 HR HU HC
    go_enter Try.func18, Try.ntmps18
    go_wp2
    go_ret
    exact ⟨congrArg (fun b => Ending.returned (.bool b)) HV.out.symm, bel_al _ _⟩
  have f8 : decide ((120 : Int) < (t.size : Int)) = false := decide_eq_false (by omega)
  by_cases g9 : t.size = 0
  rotate_left
  · have f9 := text_empty (r := t) (decide_eq_false g9)
    have HV : Hid (u = false) := not_rt HU.out (fun r => by have := HR.out.1 r; omega)
    clear g8 g9 HR HU HC
    go_enter Try.func18, Try.ntmps18
    go_wp2
    go_ret
    exact ⟨congrArg (fun b => Ending.returned (.bool b)) HV.out.symm, bel_al _ _⟩
  have f9 := text_empty (r := t) (decide_eq_true g9)
  have HT : Hid (t.size ≤ 0) := by show t.size ≤ 0; omega
  clear g8 g9
  by_cases g10 : n < 0
  · have HV : Hid (u = false) := not_rt HU.out (fun r => by have := HR.out.1 r; omega)
    have f10 : decide (n < 0) = true := decide_eq_true g10
    clear g10 HR HU HC
    go_enter Try.func18, Try.ntmps18
    go_wp2
    go_ret
    exact ⟨congrArg (fun b => Ending.returned (.bool b)) HV.out.symm, bel_al _ _⟩
  have f10 : decide (n < 0) = false := decide_eq_false g10
  by_cases g11 : 9007199254740991 < n
  · have HV : Hid (u = false) := not_rt HU.out (fun r => by have := HR.out.1 r; omega)
    have f11 : decide (9007199254740991 < n) = true := decide_eq_true g11
    clear g10 g11 HR HU HC
    go_enter Try.func18, Try.ntmps18
    go_wp2
    go_ret
    exact ⟨congrArg (fun b => Ending.returned (.bool b)) HV.out.symm, bel_al _ _⟩
  have f11 : decide (9007199254740991 < n) = false := decide_eq_false g11
  by_cases g12 : 8 < m
  · have HV : Hid (u = false) := not_rt HU.out (fun r => by have := HR.out.1 r; omega)
    have f12 : decide ((8 : Int) < (m : Int)) = true := decide_eq_true (by omega)
    clear g10 g11 g12 HR HU HC
    go_enter Try.func18, Try.ntmps18
    go_wp2
    go_ret
    exact ⟨congrArg (fun b => Ending.returned (.bool b)) HV.out.symm, bel_al _ _⟩
  have f12 : decide ((8 : Int) < (m : Int)) = false := decide_eq_false (by omega)
  by_cases g13 : 0 < m
  · have HV : Hid (u = false) := not_rt HU.out (fun r => by have := HR.out.1 r; omega)
    have f13 : decide (0 < m) = true := decide_eq_true g13
    clear g10 g11 g12 g13 HR HU HC
    go_enter Try.func18, Try.ntmps18
    go_wp2
    go_ret
    exact ⟨congrArg (fun b => Ending.returned (.bool b)) HV.out.symm, bel_al _ _⟩
  have HM : Hid (0 ≤ n ∧ n ≤ 9007199254740991 ∧ m ≤ 0) := ⟨by omega, by omega, by omega⟩
  have f13 : decide (0 < m) = false := decide_eq_false g13
  clear g13
  clear g10 g11 g12
  go_enter Try.func18, Try.ntmps18
  go_wp2
  go_loopw [5] (fun v5 wr => ∃ i : Nat, i ≤ m ∧ v5 = .int .i64 i ∧ wr = w.alloc (.cells #[.int .i64 8, .string p, .string t, .int .i64 c, .int .i64 l, .int .i64 n, .slice a m q] 32) ∧ allB 0 9007199254740991 (ls.take i) = true) (fun v5 _ => m - (intOf v5).toNat)
  case atStart => exact ⟨0, by omega, rfl, rfl, rfl⟩
  case round =>
    obtain ⟨i, hil, rfl, rfl, hall⟩ := hrel
    have HA : Hid (allB 0 9007199254740991 (ls.take i) = true) := hall
    clear hall f13
    by_cases hlt : i < m
    · have hix : i < ls.length := by rw [HN.out]; exact hlt
      obtain ⟨b, off, rfl, hat⟩ := HC.out.at (by omega)
      have e0 := hat i hix
      have HT1 : Hid (inB 0 ls[i] 9007199254740991 = true → allB 0 9007199254740991 (ls.take (i + 1)) = true) := fun e => all_take hix HA.out e
      have HF1 : Hid (inB 0 ls[i] 9007199254740991 = false → u = false) := fun e => not_rt HU.out (fun r => by have r2 := (HR.out.1 r).2.2.2.2; rw [all_not hix e] at r2; cases r2)
      clear hat
      generalize ls[i] = z at *
      by_cases z0 : z < 0
      · have HV : Hid (u = false) := HF1.out (inB_no (by omega))
        have f14 : decide (z < 0) = true := decide_eq_true z0
        clear z0
        go_wp2
        go_ret
        exact ⟨congrArg (fun b => Ending.returned (.bool b)) HV.out.symm, bel_al _ _⟩
      · have f14 : decide (z < 0) = false := decide_eq_false z0
        by_cases z1 : 9007199254740991 < z
        · have HV : Hid (u = false) := HF1.out (inB_no (by omega))
          have f15 : decide (9007199254740991 < z) = true := decide_eq_true z1
          clear z0 z1
          go_wp2
          go_ret
          exact ⟨congrArg (fun b => Ending.returned (.bool b)) HV.out.symm, bel_al _ _⟩
        · have f15 : decide (9007199254740991 < z) = false := decide_eq_false z1
          have HZ : Hid _ := HT1.out (inB_yes (by omega) (by omega))
          clear z0 z1 HT1 HF1
          go_wp2
          go_roundw
          case rel => exact ⟨i + 1, by omega, by go_num, by simp, HZ.out⟩
          case measure => simp [intOf]; omega
    · obtain rfl : i = m := by omega
      have hgd : decide ((i : Int) < (i : Int)) = false := decide_eq_false (by omega)
      have hz := HA.out
      rw [List.take_of_length_le (by rw [HN.out]; omega)] at hz
      have HV : Hid (u = true) := HU.out.2 (HR.out.2 ⟨HT.out, HM.out.1, HM.out.2.1, HM.out.2.2, hz⟩)
      clear hlt hz
      go_wp2
      go_ret
      exact ⟨congrArg (fun b => Ending.returned (.bool b)) HV.out.symm, bel_al _ _⟩

set_option maxRecDepth 100000 in
set_option maxHeartbeats 8000000 in
theorem refRight_9 {p t : ByteArray} {c l n : Int} {ls : List Int} {a : Option Addr} {m q : Nat} {w : World} (h : Nm w a m ls) (u : Bool) (hu : u = true ↔ Rt ⟨9, p, t, c, l, n, ls⟩) (hp : p.size ≤ 120) (hc0 : 0 ≤ c) (hc1 : c < 4) (hl0 : 0 ≤ l) (hl1 : l ≤ 9007199254740991) :
    Calls Try.prog 18 #[edV ⟨9, p, t, c, l, n, ls⟩ a m q] w fun x w' => x = .returned (.bool u) ∧ Below w.heap.size w w' := by
  have HN : Hid (ls.length = m) := h.len
  have hlid := h.lid
  unfold maxLen at hlid
  have HC : Hid (Nm (w.alloc (.cells #[.int .i64 9, .string p, .string t, .int .i64 c, .int .i64 l, .int .i64 n, .slice a m q] 32)) a m ls) := h.below (bel_al _ _)
  have HU : Hid (u = true ↔ Rt ⟨9, p, t, c, l, n, ls⟩) := hu
  have eT : toM 9 = 0 := rfl
  have eL : loN 9 = 0 := rfl
  have eH : hiN 9 = 9007199254740991 := rfl
  have eM : lenM 9 = 0 := rfl
  have HR : Hid (Rt ⟨9, p, t, c, l, n, ls⟩ ↔ t.size ≤ 0 ∧ 0 ≤ n ∧ n ≤ 9007199254740991 ∧ m ≤ 0 ∧ allB 0 9007199254740991 ls = true) := by
    constructor
    · intro r
      have r1 := r.to
      have r2 := inB_iff.1 r.num
      have r3 := r.few
      have r4 := r.each
      simp only [eT, eL, eH, eM, HN.out] at r1 r2 r3 r4
      exact ⟨r1, r2.1, r2.2, r3, r4⟩
    · rintro ⟨r1, r2, r3, r4, r5⟩
      refine ⟨by simp only; exact inB_yes (by omega) (by omega), hp, by simp only [eT]; exact r1, by simp only; exact inB_yes hc0 (by omega), inB_yes hl0 hl1, by simp only [eL, eH]; exact inB_yes r2 r3, by simp only [eM, HN.out]; exact r4, r5⟩
  have f3 : decide ((120 : Int) < (p.size : Int)) = false := decide_eq_false (by omega)
  have f4 : decide (c < 0) = false := decide_eq_false (by omega)
  have f5 : decide (4 ≤ c) = false := decide_eq_false (by omega)
  have f6 : decide (l < 0) = false := decide_eq_false (by omega)
  have f7 : decide (9007199254740991 < l) = false := decide_eq_false (by omega)
  clear h hu eT eL eH eM hp hc0 hc1 hl0 hl1
  unfold edV
  simp only
  by_cases g8 : 120 < t.size
  · have HV : Hid (u = false) := not_rt HU.out (fun r => by have := HR.out.1 r; omega)
    have f8 : decide ((120 : Int) < (t.size : Int)) = true := decide_eq_true (by omega)
    clear g8 HR HU HC
    go_enter Try.func18, Try.ntmps18
    go_wp2
    go_ret
    exact ⟨congrArg (fun b => Ending.returned (.bool b)) HV.out.symm, bel_al _ _⟩
  have f8 : decide ((120 : Int) < (t.size : Int)) = false := decide_eq_false (by omega)
  by_cases g9 : t.size = 0
  rotate_left
  · have f9 := text_empty (r := t) (decide_eq_false g9)
    have HV : Hid (u = false) := not_rt HU.out (fun r => by have := HR.out.1 r; omega)
    clear g8 g9 HR HU HC
    go_enter Try.func18, Try.ntmps18
    go_wp2
    go_ret
    exact ⟨congrArg (fun b => Ending.returned (.bool b)) HV.out.symm, bel_al _ _⟩
  have f9 := text_empty (r := t) (decide_eq_true g9)
  have HT : Hid (t.size ≤ 0) := by show t.size ≤ 0; omega
  clear g8 g9
  by_cases g10 : n < 0
  · have HV : Hid (u = false) := not_rt HU.out (fun r => by have := HR.out.1 r; omega)
    have f10 : decide (n < 0) = true := decide_eq_true g10
    clear g10 HR HU HC
    go_enter Try.func18, Try.ntmps18
    go_wp2
    go_ret
    exact ⟨congrArg (fun b => Ending.returned (.bool b)) HV.out.symm, bel_al _ _⟩
  have f10 : decide (n < 0) = false := decide_eq_false g10
  by_cases g11 : 9007199254740991 < n
  · have HV : Hid (u = false) := not_rt HU.out (fun r => by have := HR.out.1 r; omega)
    have f11 : decide (9007199254740991 < n) = true := decide_eq_true g11
    clear g10 g11 HR HU HC
    go_enter Try.func18, Try.ntmps18
    go_wp2
    go_ret
    exact ⟨congrArg (fun b => Ending.returned (.bool b)) HV.out.symm, bel_al _ _⟩
  have f11 : decide (9007199254740991 < n) = false := decide_eq_false g11
  by_cases g12 : 8 < m
  · have HV : Hid (u = false) := not_rt HU.out (fun r => by have := HR.out.1 r; omega)
    have f12 : decide ((8 : Int) < (m : Int)) = true := decide_eq_true (by omega)
    clear g10 g11 g12 HR HU HC
    go_enter Try.func18, Try.ntmps18
    go_wp2
    go_ret
    exact ⟨congrArg (fun b => Ending.returned (.bool b)) HV.out.symm, bel_al _ _⟩
  have f12 : decide ((8 : Int) < (m : Int)) = false := decide_eq_false (by omega)
  by_cases g13 : 0 < m
  · have HV : Hid (u = false) := not_rt HU.out (fun r => by have := HR.out.1 r; omega)
    have f13 : decide (0 < m) = true := decide_eq_true g13
    clear g10 g11 g12 g13 HR HU HC
    go_enter Try.func18, Try.ntmps18
    go_wp2
    go_ret
    exact ⟨congrArg (fun b => Ending.returned (.bool b)) HV.out.symm, bel_al _ _⟩
  have HM : Hid (0 ≤ n ∧ n ≤ 9007199254740991 ∧ m ≤ 0) := ⟨by omega, by omega, by omega⟩
  have f13 : decide (0 < m) = false := decide_eq_false g13
  clear g13
  clear g10 g11 g12
  go_enter Try.func18, Try.ntmps18
  go_wp2
  go_loopw [5] (fun v5 wr => ∃ i : Nat, i ≤ m ∧ v5 = .int .i64 i ∧ wr = w.alloc (.cells #[.int .i64 9, .string p, .string t, .int .i64 c, .int .i64 l, .int .i64 n, .slice a m q] 32) ∧ allB 0 9007199254740991 (ls.take i) = true) (fun v5 _ => m - (intOf v5).toNat)
  case atStart => exact ⟨0, by omega, rfl, rfl, rfl⟩
  case round =>
    obtain ⟨i, hil, rfl, rfl, hall⟩ := hrel
    have HA : Hid (allB 0 9007199254740991 (ls.take i) = true) := hall
    clear hall f13
    by_cases hlt : i < m
    · have hix : i < ls.length := by rw [HN.out]; exact hlt
      obtain ⟨b, off, rfl, hat⟩ := HC.out.at (by omega)
      have e0 := hat i hix
      have HT1 : Hid (inB 0 ls[i] 9007199254740991 = true → allB 0 9007199254740991 (ls.take (i + 1)) = true) := fun e => all_take hix HA.out e
      have HF1 : Hid (inB 0 ls[i] 9007199254740991 = false → u = false) := fun e => not_rt HU.out (fun r => by have r2 := (HR.out.1 r).2.2.2.2; rw [all_not hix e] at r2; cases r2)
      clear hat
      generalize ls[i] = z at *
      by_cases z0 : z < 0
      · have HV : Hid (u = false) := HF1.out (inB_no (by omega))
        have f14 : decide (z < 0) = true := decide_eq_true z0
        clear z0
        go_wp2
        go_ret
        exact ⟨congrArg (fun b => Ending.returned (.bool b)) HV.out.symm, bel_al _ _⟩
      · have f14 : decide (z < 0) = false := decide_eq_false z0
        by_cases z1 : 9007199254740991 < z
        · have HV : Hid (u = false) := HF1.out (inB_no (by omega))
          have f15 : decide (9007199254740991 < z) = true := decide_eq_true z1
          clear z0 z1
          go_wp2
          go_ret
          exact ⟨congrArg (fun b => Ending.returned (.bool b)) HV.out.symm, bel_al _ _⟩
        · have f15 : decide (9007199254740991 < z) = false := decide_eq_false z1
          have HZ : Hid _ := HT1.out (inB_yes (by omega) (by omega))
          clear z0 z1 HT1 HF1
          go_wp2
          go_roundw
          case rel => exact ⟨i + 1, by omega, by go_num, by simp, HZ.out⟩
          case measure => simp [intOf]; omega
    · obtain rfl : i = m := by omega
      have hgd : decide ((i : Int) < (i : Int)) = false := decide_eq_false (by omega)
      have hz := HA.out
      rw [List.take_of_length_le (by rw [HN.out]; omega)] at hz
      have HV : Hid (u = true) := HU.out.2 (HR.out.2 ⟨HT.out, HM.out.1, HM.out.2.1, HM.out.2.2, hz⟩)
      clear hlt hz
      go_wp2
      go_ret
      exact ⟨congrArg (fun b => Ending.returned (.bool b)) HV.out.symm, bel_al _ _⟩

set_option maxRecDepth 100000 in
set_option maxHeartbeats 8000000 in
theorem refRight_o {k : Int} {p t : ByteArray} {c l n : Int} {ls : List Int} {a : Option Addr} {m q : Nat} {w : World} (h : Nm w a m ls) (u : Bool) (hu : u = true ↔ Rt ⟨k, p, t, c, l, n, ls⟩) (hk : (1 ≤ k ∧ k ≤ 10) ∧ k ≠ 4 ∧ k ≠ 5 ∧ k ≠ 6 ∧ k ≠ 7 ∧ k ≠ 8 ∧ k ≠ 9) (hp : p.size ≤ 120) (hc0 : 0 ≤ c) (hc1 : c < 4) (hl0 : 0 ≤ l) (hl1 : l ≤ 9007199254740991) :
    Calls Try.prog 18 #[edV ⟨k, p, t, c, l, n, ls⟩ a m q] w fun x w' => x = .returned (.bool u) ∧ Below w.heap.size w w' := by
  have HN : Hid (ls.length = m) := h.len
  have hlid := h.lid
  unfold maxLen at hlid
  have HC : Hid (Nm (w.alloc (.cells #[.int .i64 k, .string p, .string t, .int .i64 c, .int .i64 l, .int .i64 n, .slice a m q] 32)) a m ls) := h.below (bel_al _ _)
  have HU : Hid (u = true ↔ Rt ⟨k, p, t, c, l, n, ls⟩) := hu
  have eT : toM k = 0 := by unfold toM; rw [if_neg (by omega)]
  have eL : loN k = 0 := by unfold loN; rw [if_neg (by omega)]
  have eH : hiN k = 0 := by unfold hiN; rw [if_neg (by omega)]
  have eM : lenM k = 0 := by unfold lenM; rw [if_neg (by omega)]
  have HR : Hid (Rt ⟨k, p, t, c, l, n, ls⟩ ↔ t.size ≤ 0 ∧ 0 ≤ n ∧ n ≤ 0 ∧ m ≤ 0 ∧ allB 0 9007199254740991 ls = true) := by
    constructor
    · intro r
      have r1 := r.to
      have r2 := inB_iff.1 r.num
      have r3 := r.few
      have r4 := r.each
      simp only [eT, eL, eH, eM, HN.out] at r1 r2 r3 r4
      exact ⟨r1, r2.1, r2.2, r3, r4⟩
    · rintro ⟨r1, r2, r3, r4, r5⟩
      refine ⟨by simp only; exact inB_yes (by omega) (by omega), hp, by simp only [eT]; exact r1, by simp only; exact inB_yes hc0 (by omega), inB_yes hl0 hl1, by simp only [eL, eH]; exact inB_yes r2 r3, by simp only [eM, HN.out]; exact r4, r5⟩
  have f3 : decide ((120 : Int) < (p.size : Int)) = false := decide_eq_false (by omega)
  have f4 : decide (c < 0) = false := decide_eq_false (by omega)
  have f5 : decide (4 ≤ c) = false := decide_eq_false (by omega)
  have f6 : decide (l < 0) = false := decide_eq_false (by omega)
  have f7 : decide (9007199254740991 < l) = false := decide_eq_false (by omega)
  have j1 : decide (k < 1) = false := decide_eq_false (by omega)
  have j2 : decide (10 < k) = false := decide_eq_false (by omega)
  have j4 : (k != 4) = true := by simp; omega
  have j5 : (k != 5) = true := by simp; omega
  have j6 : (k != 6) = true := by simp; omega
  have j7 : (k == 7) = false := beq_eq_false_iff_ne.2 (by omega)
  have j8 : (k == 8) = false := beq_eq_false_iff_ne.2 (by omega)
  have j9 : (k == 9) = false := beq_eq_false_iff_ne.2 (by omega)
  clear hk
  clear h hu eT eL eH eM hp hc0 hc1 hl0 hl1
  unfold edV
  simp only
  by_cases g8 : 120 < t.size
  · have HV : Hid (u = false) := not_rt HU.out (fun r => by have := HR.out.1 r; omega)
    have f8 : decide ((120 : Int) < (t.size : Int)) = true := decide_eq_true (by omega)
    clear g8 HR HU HC
    go_enter Try.func18, Try.ntmps18
    go_wp2
    go_ret
    exact ⟨congrArg (fun b => Ending.returned (.bool b)) HV.out.symm, bel_al _ _⟩
  have f8 : decide ((120 : Int) < (t.size : Int)) = false := decide_eq_false (by omega)
  by_cases g9 : t.size = 0
  rotate_left
  · have f9 := text_empty (r := t) (decide_eq_false g9)
    have HV : Hid (u = false) := not_rt HU.out (fun r => by have := HR.out.1 r; omega)
    clear g8 g9 HR HU HC
    go_enter Try.func18, Try.ntmps18
    go_wp2
    go_ret
    exact ⟨congrArg (fun b => Ending.returned (.bool b)) HV.out.symm, bel_al _ _⟩
  have f9 := text_empty (r := t) (decide_eq_true g9)
  have HT : Hid (t.size ≤ 0) := by show t.size ≤ 0; omega
  clear g8 g9
  by_cases g10 : n < 0
  · have HV : Hid (u = false) := not_rt HU.out (fun r => by have := HR.out.1 r; omega)
    have f10 : decide (n < 0) = true := decide_eq_true g10
    clear g10 HR HU HC
    go_enter Try.func18, Try.ntmps18
    go_wp2
    go_ret
    exact ⟨congrArg (fun b => Ending.returned (.bool b)) HV.out.symm, bel_al _ _⟩
  have f10 : decide (n < 0) = false := decide_eq_false g10
  by_cases g11 : 0 < n
  · have HV : Hid (u = false) := not_rt HU.out (fun r => by have := HR.out.1 r; omega)
    have f11 : decide (0 < n) = true := decide_eq_true g11
    clear g10 g11 HR HU HC
    go_enter Try.func18, Try.ntmps18
    go_wp2
    go_ret
    exact ⟨congrArg (fun b => Ending.returned (.bool b)) HV.out.symm, bel_al _ _⟩
  have f11 : decide (0 < n) = false := decide_eq_false g11
  by_cases g12 : 8 < m
  · have HV : Hid (u = false) := not_rt HU.out (fun r => by have := HR.out.1 r; omega)
    have f12 : decide ((8 : Int) < (m : Int)) = true := decide_eq_true (by omega)
    clear g10 g11 g12 HR HU HC
    go_enter Try.func18, Try.ntmps18
    go_wp2
    go_ret
    exact ⟨congrArg (fun b => Ending.returned (.bool b)) HV.out.symm, bel_al _ _⟩
  have f12 : decide ((8 : Int) < (m : Int)) = false := decide_eq_false (by omega)
  by_cases g13 : 0 < m
  · have HV : Hid (u = false) := not_rt HU.out (fun r => by have := HR.out.1 r; omega)
    have f13 : decide (0 < m) = true := decide_eq_true g13
    clear g10 g11 g12 g13 HR HU HC
    go_enter Try.func18, Try.ntmps18
    go_wp2
    go_ret
    exact ⟨congrArg (fun b => Ending.returned (.bool b)) HV.out.symm, bel_al _ _⟩
  have HM : Hid (0 ≤ n ∧ n ≤ 0 ∧ m ≤ 0) := ⟨by omega, by omega, by omega⟩
  have f13 : decide (0 < m) = false := decide_eq_false g13
  clear g13
  clear g10 g11 g12
  go_enter Try.func18, Try.ntmps18
  go_wp2
  go_loopw [5] (fun v5 wr => ∃ i : Nat, i ≤ m ∧ v5 = .int .i64 i ∧ wr = w.alloc (.cells #[.int .i64 k, .string p, .string t, .int .i64 c, .int .i64 l, .int .i64 n, .slice a m q] 32) ∧ allB 0 9007199254740991 (ls.take i) = true) (fun v5 _ => m - (intOf v5).toNat)
  case atStart => exact ⟨0, by omega, rfl, rfl, rfl⟩
  case round =>
    obtain ⟨i, hil, rfl, rfl, hall⟩ := hrel
    have HA : Hid (allB 0 9007199254740991 (ls.take i) = true) := hall
    clear hall f13
    by_cases hlt : i < m
    · have hix : i < ls.length := by rw [HN.out]; exact hlt
      obtain ⟨b, off, rfl, hat⟩ := HC.out.at (by omega)
      have e0 := hat i hix
      have HT1 : Hid (inB 0 ls[i] 9007199254740991 = true → allB 0 9007199254740991 (ls.take (i + 1)) = true) := fun e => all_take hix HA.out e
      have HF1 : Hid (inB 0 ls[i] 9007199254740991 = false → u = false) := fun e => not_rt HU.out (fun r => by have r2 := (HR.out.1 r).2.2.2.2; rw [all_not hix e] at r2; cases r2)
      clear hat
      generalize ls[i] = z at *
      by_cases z0 : z < 0
      · have HV : Hid (u = false) := HF1.out (inB_no (by omega))
        have f14 : decide (z < 0) = true := decide_eq_true z0
        clear z0
        go_wp2
        go_ret
        exact ⟨congrArg (fun b => Ending.returned (.bool b)) HV.out.symm, bel_al _ _⟩
      · have f14 : decide (z < 0) = false := decide_eq_false z0
        by_cases z1 : 9007199254740991 < z
        · have HV : Hid (u = false) := HF1.out (inB_no (by omega))
          have f15 : decide (9007199254740991 < z) = true := decide_eq_true z1
          clear z0 z1
          go_wp2
          go_ret
          exact ⟨congrArg (fun b => Ending.returned (.bool b)) HV.out.symm, bel_al _ _⟩
        · have f15 : decide (9007199254740991 < z) = false := decide_eq_false z1
          have HZ : Hid _ := HT1.out (inB_yes (by omega) (by omega))
          clear z0 z1 HT1 HF1
          go_wp2
          go_roundw
          case rel => exact ⟨i + 1, by omega, by go_num, by simp, HZ.out⟩
          case measure => simp [intOf]; omega
    · obtain rfl : i = m := by omega
      have hgd : decide ((i : Int) < (i : Int)) = false := decide_eq_false (by omega)
      have hz := HA.out
      rw [List.take_of_length_le (by rw [HN.out]; omega)] at hz
      have HV : Hid (u = true) := HU.out.2 (HR.out.2 ⟨HT.out, HM.out.1, HM.out.2.1, HM.out.2.2, hz⟩)
      clear hlt hz
      go_wp2
      go_ret
      exact ⟨congrArg (fun b => Ending.returned (.bool b)) HV.out.symm, bel_al _ _⟩

theorem refRight_val {e : Ed} {a : Option Addr} {m q : Nat} {w : World} (h : Nm w a m e.ls) (u : Bool) (hu : u = true ↔ Rt e) :
    Calls Try.prog 18 #[edV e a m q] w fun x w' => x = .returned (.bool u) ∧ Below w.heap.size w w' := by
  obtain ⟨k, p, t, c, l, n, ls⟩ := e
  simp only at h
  by_cases hx : k < 1 ∨ 10 < k ∨ 120 < p.size ∨ c < 0 ∨ 4 ≤ c ∨ l < 0 ∨ 9007199254740991 < l
  · refine refRight_a u (not_rt hu (fun r => ?_)) hx
    have h1 := inB_iff.1 r.kind
    have h2 := inB_iff.1 r.client
    have h3 := inB_iff.1 r.call
    have h4 := r.path
    simp only at h1 h2 h3 h4
    omega
  · by_cases h4 : k = 4
    · subst h4; exact refRight_4 h u hu (by omega) (by omega) (by omega) (by omega) (by omega)
    by_cases h5 : k = 5
    · subst h5; exact refRight_5 h u hu (by omega) (by omega) (by omega) (by omega) (by omega)
    by_cases h6 : k = 6
    · subst h6; exact refRight_6 h u hu (by omega) (by omega) (by omega) (by omega) (by omega)
    by_cases h7 : k = 7
    · subst h7; exact refRight_7 h u hu (by omega) (by omega) (by omega) (by omega) (by omega)
    by_cases h8 : k = 8
    · subst h8; exact refRight_8 h u hu (by omega) (by omega) (by omega) (by omega) (by omega)
    by_cases h9 : k = 9
    · subst h9; exact refRight_9 h u hu (by omega) (by omega) (by omega) (by omega) (by omega)
    exact refRight_o h u hu ⟨by omega, h4, h5, h6, h7, h8, h9⟩ (by omega) (by omega) (by omega) (by omega) (by omega)

end Go.Proofs.Ythogpaojdlfjcaa.Edi
