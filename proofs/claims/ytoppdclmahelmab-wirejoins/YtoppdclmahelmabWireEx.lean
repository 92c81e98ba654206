/- The contract of the examples ahead of each statement of layer 1: they hold. -/
import Derived.Test.YtoppdclmahelmabWireTake
namespace Go.Proofs.Ytoppdclmahelmab
open Go.RowKit

theorem bel_trans {a b c : World} (h : Below a.heap.size a b) (k : Below b.heap.size b c) : Below a.heap.size a c := h.trans (k.mono h.size)
theorem bel_drewN (w : World) (n : Nat) : Below w.heap.size w (w.drewN n) := below_drewN (Below.refl _ _) n

theorem takeNum_bel (s : ByteArray) (w : World) (hs : s.size ≤ maxLen) :
    Calls Try.prog 8 #[.string s] w fun e w' => e = .returned (takeNumV s) ∧ Below w.heap.size w w' :=
  (takeNum_any s w hs).mono fun e w' h => ⟨h.1, by obtain ⟨n, hn⟩ := h.2; subst hn; exact bel_drewN _ _⟩

theorem takeNum_val (s : ByteArray) (V : Value) (w : World) (hs : s.size ≤ maxLen) (hV : takeNumV s = V) :
    Calls Try.prog 8 #[.string s] w fun e w' => e = .returned V ∧ Below w.heap.size w w' := by
  subst hV; exact takeNum_bel s w hs

theorem num_val (n : Int) (l : List UInt8) (w : World) (h0 : -9223372036854775808 ≤ n) (h1 : n ≤ 9223372036854775807) (hl : numB n = l) :
    Calls Try.prog 7 #[.int .i64 n] w fun e w' => e = .returned (.string ⟨l.toArray⟩) ∧ Below w.heap.size w w' := by
  subst hl; exact num_any n w h0 h1

theorem ex_take1 : takeNumV ⟨#[128, 0]⟩ = .tuple #[.int .i64 0, .string ⟨#[]⟩, .int .i64 2] := by rfl
theorem ex_take2 : takeNumV ⟨#[128]⟩ = .tuple #[.int .i64 0, .string ⟨#[]⟩, .int .i64 2] := by rfl
theorem ex_take3 : takeNumV ⟨#[128, 1, 120]⟩ = .tuple #[.int .i64 64, .string ⟨#[120]⟩, .int .i64 0] := by rfl
theorem ex_num1 : numB 0 = [0] := by show Lib.uvarint 0 = _; rw [Lib.uvarint_small (by decide)]; rfl
theorem ex_num2 : numB (-1) = [1] := by show Lib.uvarint 1 = _; rw [Lib.uvarint_small (by decide)]; rfl
theorem ex_num3 : numB 64 = [128, 1] := by show Lib.uvarint 128 = _; rw [Lib.uvarint_big (by decide), Lib.uvarint_small (by decide)]; rfl
theorem ex_num4 : numB (-9223372036854775808) = [255, 255, 255, 255, 255, 255, 255, 255, 255, 1] := by
  show Lib.uvarint 18446744073709551615 = _
  rw [Lib.uvarint_big (by decide), Lib.uvarint_big (by decide), Lib.uvarint_big (by decide), Lib.uvarint_big (by decide), Lib.uvarint_big (by decide),
    Lib.uvarint_big (by decide), Lib.uvarint_big (by decide), Lib.uvarint_big (by decide), Lib.uvarint_big (by decide), Lib.uvarint_small (by decide)]
  rfl

set_option maxRecDepth 100000 in
set_option maxHeartbeats 1000000 in
theorem examples_any (w : World) : Calls Try.prog 6 #[] w fun e w' => e = .returned (.bool true) ∧ Below w.heap.size w w' := by
  go_enter Try.func6, Try.ntmps6
  go_wp2_with fail
  refine (takeNum_val ⟨#[128, 0]⟩ _ _ (by decide) ex_take1).mono ?_
  rintro e w1 ⟨rfl, b1⟩
  go_wp2_with fail
  refine (takeNum_val ⟨#[128]⟩ _ _ (by decide) ex_take2).mono ?_
  rintro e w2 ⟨rfl, b2⟩
  go_wp2_with fail
  refine (takeNum_val ⟨#[128, 1, 120]⟩ _ _ (by decide) ex_take3).mono ?_
  rintro e w3 ⟨rfl, b3⟩
  go_wp2_with fail
  refine (num_val 0 _ _ (by decide) (by decide) ex_num1).mono ?_
  rintro e w4 ⟨rfl, b4⟩
  go_wp2_with fail
  refine (num_val (-1) _ _ (by decide) (by decide) ex_num2).mono ?_
  rintro e w5 ⟨rfl, b5⟩
  go_wp2_with fail
  refine (num_val 64 _ _ (by decide) (by decide) ex_num3).mono ?_
  rintro e w6 ⟨rfl, b6⟩
  go_wp2_with fail
  refine (num_val (-9223372036854775808) _ _ (by decide) (by decide) ex_num4).mono ?_
  rintro e w7 ⟨rfl, b7⟩
  go_wp2
  go_ret
  exact ⟨rfl, bel_trans (bel_trans (bel_trans (bel_trans (bel_trans (bel_trans b1 b2) b3) b4) b5) b6) b7⟩

end Go.Proofs.Ytoppdclmahelmab
