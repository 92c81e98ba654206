/- The contract of slices.rotateCmpFunc. -/
import Derived.Test.YtlgfhmedenlbcabRealSwap
namespace Go.Proofs.Ytlgfhmedenlbcab
open Go.RowKit

theorem swapRange_at (base g cap n a b c : Nat) (A B C : Int) (F : Value) (xs : List Nat) (w : World) (hA : A = a) (hB : B = b) (hC : C = c) (hn : xs.length = n) (hl : n ≤ 1000) (hR : RowF base w g xs) (hab : a + c ≤ b) (hb : b + c ≤ n) :
    Calls Try.prog 31 #[.slice (some ⟨g, 0, none⟩) n cap, .int .i64 A, .int .i64 B, .int .i64 C, F] w fun e w' => e = .returned (.tuple #[]) ∧ ∃ ys, Swapped a b c xs ys ∧ RowF base w' g ys ∧ Below base w w' := by
  subst hA hB hC; exact swapRange_val base g cap n a b c F xs w hn hl hR hab hb

set_option maxRecDepth 100000 in
set_option maxHeartbeats 1000000 in
theorem rotate_val (base g cap n a m b : Nat) (F : Value) (xs : List Nat) (w : World) (hn : xs.length = n) (hl : n ≤ 1000) (hR : RowF base w g xs) (ham : a < m) (hmb : m < b) (hb : b ≤ n) :
    Calls Try.prog 30 #[.slice (some ⟨g, 0, none⟩) n cap, .int .i64 a, .int .i64 m, .int .i64 b, F] w fun e w' => e = .returned (.tuple #[]) ∧ ∃ ys, Rotated a m b xs ys ∧ RowF base w' g ys ∧ Below base w w' := by
  have HN : Hid _ := hn
  have HR : Hid _ := hR
  clear hn hR
  go_enter Try.func30, Try.ntmps30
  go_wp2
  go_loopw [10, 11] (fun v u wr => ∃ (i j : Nat) (cur : List Nat), v = .int .i64 i ∧ u = .int .i64 j ∧ Turning a m b xs cur i j ∧ RowF base wr g cur ∧ Below base w wr) (fun v u _ => (intOf v).toNat + (intOf u).toNat)
  case atStart => exact ⟨m - a, b - m, xs, by go_num, by go_num, Turning.start xs ham hmb, HR.out, (Below.refl _ _).mono HR.out.lo⟩
  case round =>
    obtain ⟨i, j, cur, rfl, rfl, ht, hrow, hbel⟩ := hrel
    have hlen : cur.length = n := by rw [ht.len, HN.out]
    have t1 := ht.i0
    have t2 := ht.j0
    have t3 := ht.lo
    have t4 := ht.hi
    have HT : Hid _ := ht
    have HRow : Hid _ := hrow
    have HBel : Hid _ := hbel
    have HLen : Hid _ := hlen
    clear ht hrow hbel hlen HN HR
    rcases Nat.lt_trichotomy i j with hij | hij | hij
    · go_wp2_with fail
      refine (swapRange_at base g cap n (m - i) (m + j - i) i _ _ _ _ cur _ (by omega) (by omega) (by omega) HLen.out hl HRow.out (by omega) (by omega)).mono ?_
      rintro e w2 ⟨rfl, ys, hs, hrow2, hbel2⟩
      have hT2 := HT.out.less hij hs
      have hB2 := HBel.out.trans hbel2
      have HT2 : Hid _ := hT2
      clear hT2 hs HT hbel2 HRow HBel HLen
      go_wp2
      go_roundw
      case rel => exact ⟨i, j - i, ys, rfl, by go_num, HT2.out, hrow2, hB2⟩
      case measure => simp [intOf]; omega
    · subst hij
      go_wp2_with fail
      refine (swapRange_at base g cap n (m - i) m i _ _ _ _ cur _ (by omega) (by omega) (by omega) HLen.out hl HRow.out (by omega) (by omega)).mono ?_
      rintro e w2 ⟨rfl, ys, hs, hrow2, hbel2⟩
      have hT2 := HT.out.done hs
      have hB2 := HBel.out.trans hbel2
      go_wp2
      go_end0
      exact ⟨rfl, ys, hT2, hrow2, hB2⟩
    · go_wp2_with fail
      refine (swapRange_at base g cap n (m - i) m j _ _ _ _ cur _ (by omega) (by omega) (by omega) HLen.out hl HRow.out (by omega) (by omega)).mono ?_
      rintro e w2 ⟨rfl, ys, hs, hrow2, hbel2⟩
      have hT2 := HT.out.more hij hs
      have hB2 := HBel.out.trans hbel2
      have HT2 : Hid _ := hT2
      clear hT2 hs HT hbel2 HRow HBel HLen
      go_wp2
      go_roundw
      case rel => exact ⟨i - j, j, ys, by go_num, rfl, HT2.out, hrow2, hB2⟩
      case measure => simp [intOf]; omega

theorem rotate_at (base g cap n a m b : Nat) (A M B : Int) (F : Value) (xs : List Nat) (w : World) (hA : A = a) (hM : M = m) (hB : B = b) (hn : xs.length = n) (hl : n ≤ 1000) (hR : RowF base w g xs) (ham : a < m) (hmb : m < b) (hb : b ≤ n) :
    Calls Try.prog 30 #[.slice (some ⟨g, 0, none⟩) n cap, .int .i64 A, .int .i64 M, .int .i64 B, F] w fun e w' => e = .returned (.tuple #[]) ∧ ∃ ys, Rotated a m b xs ys ∧ RowF base w' g ys ∧ Below base w w' := by
  subst hA hM hB; exact rotate_val base g cap n a m b F xs w hn hl hR ham hmb hb

end Go.Proofs.Ytlgfhmedenlbcab
