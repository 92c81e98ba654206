/- The contracts of tabulariumlaw06.texts (where both lists are the same) and examples. -/
import Derived.Test.YtnoblmpelebemaaPathF8
namespace Go.Proofs.Ytnoblmpelebemaa
open Go.RowKit

set_option maxRecDepth 100000 in
set_option maxHeartbeats 1000000 in
theorem texts_same (a a' : Option Addr) (b off cap b' off' cap' n : Nat) (ss : List ByteArray) (w : World) (hS : Strs w a b off ss) (hS' : Strs w a' b' off' ss) (hn : ss.length = n) :
    Calls Try.prog 12 #[.slice a n cap, .slice a' n cap'] w fun e w' => e = .returned (.bool true) ∧ Below w.heap.size w w' := by
  subst hn
  have hm := hS.len
  unfold maxLen at hm
  go_enter Try.func12, Try.ntmps12
  go_wp2
  go_loopw [5] (fun c wr => ∃ k n : Nat, k ≤ ss.length ∧ c = .int .i64 k ∧ wr = w.drewN n) (fun c _ => ss.length - (intOf c).toNat)
  case atStart => exact ⟨0, 0, by omega, rfl, rfl⟩
  case round =>
    obtain ⟨k, n, hk, rfl, rfl⟩ := hrel
    by_cases hlt : k < ss.length
    · obtain rfl := hS.addr (by omega)
      obtain rfl := hS'.addr (by omega)
      have hc1 : ∀ m, (w.drewN m).cell? ⟨b, off + k, none⟩ = some (.string ss[k]) := fun _ => hS.cell k hlt
      have hc2 : ∀ m, (w.drewN m).cell? ⟨b', off' + k, none⟩ = some (.string ss[k]) := fun _ => hS'.cell k hlt
      have hlt' : (k : Int) < (ss.length : Int) := by omega
      clear hS hS'
      go_wp2
      refine wp_region_quiet_lit (by kernel_rfl) (by kernel_rfl) ?_
      repeat (first | go_big_quiet_step (fail) | quiet_step (fail))
      refine wpQuiet_nil ?_
      rintro _ ⟨nq, rfl⟩
      go_wp2
      go_roundw
      case rel => exact ⟨k + 1, n + nq, by omega, by go_num, by simp [World.drewN]⟩
      case measure => simp [intOf]; omega
    · go_wp2
      go_ret
      exact ⟨rfl, bel_drewN _ _⟩

theorem good_of {ns : List ByteArray} (h1 : ns.all nameB = true) (h2 : ns.length ≤ 6) (h3 : (pathL ns).length ≤ 120) : Good ns := ⟨List.all_eq_true.1 h1, h2, h3⟩

theorem exP {p : ByteArray} {ns : List ByteArray} (g : Good ns) (h : pathT ns = p) : splitX p = (ns, 0) := by rw [← h]; exact splitX_good g

theorem ex1 : splitX ⟨#[47, 97, 47, 98]⟩ = ([⟨#[97]⟩, ⟨#[98]⟩], 0) := exP (good_of (by decide) (by decide) (by decide)) (by decide)
theorem cut47 : cutL [47] = none := cutL_no (by decide)
theorem ex2 : splitX ⟨#[47, 97, 47]⟩ = ([], 1) := by
  have h : cutL [47, 97, 47] = none := by
    rw [cutL_yes rfl (by decide), show rest [97, 47] = [47] by decide, cut47]; rfl
  have h2 : cutL (⟨#[47, 97, 47]⟩ : ByteArray).data.toList = none := h
  rw [splitX_cut (by decide) (by rw [Lib.toList_data]; decide), h2]; rfl
theorem ex3 : splitX ⟨#[47, 46, 46]⟩ = ([], 1) := by
  have h : cutL [47, 46, 46] = none := cutL_no (by decide)
  have h2 : cutL (⟨#[47, 46, 46]⟩ : ByteArray).data.toList = none := h
  rw [splitX_cut (by decide) (by rw [Lib.toList_data]; decide), h2]; rfl
theorem exA : splitX ⟨#[47, 97]⟩ = ([⟨#[97]⟩], 0) := exP (good_of (by decide) (by decide) (by decide)) (by decide)
theorem exR : splitX ⟨#[47]⟩ = ([], 0) := exP good_nil rfl
theorem exC : splitX ⟨#[47, 97, 47, 98, 47, 99]⟩ = ([⟨#[97]⟩, ⟨#[98]⟩, ⟨#[99]⟩], 0) := exP (good_of (by decide) (by decide) (by decide)) (by decide)
theorem exX : splitX ⟨#[47, 120, 47, 121]⟩ = ([⟨#[120]⟩, ⟨#[121]⟩], 0) := exP (good_of (by decide) (by decide) (by decide)) (by decide)
theorem exU : underB ⟨#[47]⟩ ⟨#[47, 97]⟩ = true := by
  unfold underB splitE splitN; rw [exR, exA]; decide
theorem exU2 : underB ⟨#[47, 97]⟩ ⟨#[47, 97, 47, 98, 47, 99]⟩ = true := by
  unfold underB splitE splitN; rw [exA, exC]; decide
theorem exM : moveX ⟨#[47, 97, 47, 98, 47, 99]⟩ ⟨#[47, 97]⟩ ⟨#[47, 120, 47, 121]⟩ = (⟨#[47, 120, 47, 121, 47, 98, 47, 99]⟩, 0) := by
  have h : splitE ⟨#[47, 120, 47, 121]⟩ = 0 := by unfold splitE; rw [exX]
  rw [moveX_yes exU2 h, below_yes exU2]
  unfold splitN
  rw [exX, exA, exC]
  have g : Good ([⟨#[120]⟩, ⟨#[121]⟩] ++ [⟨#[97]⟩, ⟨#[98]⟩, ⟨#[99]⟩].drop 1) := good_of (by decide) (by decide) (by decide)
  exact (joinX_good g).trans (by decide)

theorem lit_le (s : ByteArray) (h : s.size ≤ 100) : s.size ≤ maxLen := by unfold maxLen; omega

set_option maxRecDepth 100000 in
set_option maxHeartbeats 1000000 in
theorem examples_any (w : World) :
    Calls Try.prog 9 #[] w fun e w' => e = .returned (.bool true) ∧ Below w.heap.size w w' := by
  go_enter Try.func9, Try.ntmps9
  go_wp2_with fail
  refine (split_val _ _ 0 2 _ (lit_le _ (by decide)) ex1 rfl).mono ?_
  rintro e w1 ⟨a1, b1, cap1, rfl, hS1, c1⟩
  obtain rfl := hS1.strs.addr (by decide)
  have HC : Hid (w1.cell? ⟨b1, 1, none⟩ = some (.string ⟨#[98]⟩)) := by
    have h := hS1.strs.cell 1 (by decide)
    exact h
  have HB : Hid (b1 < w1.heap.size) := hS1.strs.lt (by decide)
  clear hS1
  go_wp2_with fail
  refine (split_val _ _ 1 0 _ (lit_le _ (by decide)) ex2 rfl).mono ?_
  rintro e w2 ⟨a2, b2, cap2, rfl, hS2, c2⟩
  clear hS2
  go_wp2_with fail
  refine (split_val _ _ 1 0 _ (lit_le _ (by decide)) ex3 rfl).mono ?_
  rintro e w3 ⟨a3, b3, cap3, rfl, hS3, c3⟩
  clear hS3
  go_wp2_with fail
  refine (move_val _ _ _ _ 0 _ (lit_le _ (by decide)) (lit_le _ (by decide)) (lit_le _ (by decide)) exM).mono ?_
  rintro e w4 ⟨rfl, c4⟩
  have c14 := bel_trans (bel_trans c2 c3) c4
  have hc : w4.cell? ⟨b1, 1, none⟩ = some (.string ⟨#[98]⟩) := (c14.cell (p := ⟨b1, 1, none⟩) HB.out).trans HC.out
  have cc := bel_trans c1 c14
  clear c1 c2 c3 c4 c14
  go_wp2_with (go_at_call 21; refine (under_val _ _ true _ (lit_le _ (by decide)) (lit_le _ (by decide)) exU).mono ?_; rintro e w5 ⟨rfl, c5⟩)
  go_ret
  exact ⟨rfl, bel_trans cc c5⟩

end Go.Proofs.Ytnoblmpelebemaa
