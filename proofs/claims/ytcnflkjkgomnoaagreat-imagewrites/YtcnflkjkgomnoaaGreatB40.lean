/- Part 40 of the proof: SumSealR. -/
import Derived.Test.YtcnflkjkgomnoaaGreatB03
import Derived.Test.YtcnflkjkgomnoaaGreatB04
import Derived.Test.YtcnflkjkgomnoaaGreatB39
set_option maxRecDepth 100000
set_option maxHeartbeats 8000000
namespace Go.Proofs.YtcnflkjkgomnoaaGreat.Smm
open Go.RowKit Go.Proofs.YtcnflkjkgomnoaaGreat.Wir
theorem four_sum (s : ByteArray) (N : Nat) (w : World) (hN : sumN s.data.toList = N) :
    Calls Tryz.prog 114 #[.int .u32 (N : Int)] w fun e w' => e = .returned (.string (sum4 s)) ∧ Below w.heap.size w w' := by
  subst hN; exact four_any _ w (sumN_lt _)
theorem refSeal_yes (s : ByteArray) (w : World) (hs : s.size ≤ 4000) :
    Calls Tryz.prog 70 #[.string s] w fun e w' => e = .returned (.tuple #[.string (sealB s), .bool true]) ∧ Below w.heap.size w w' := by
  have hl := textB_size s hs
  have h4 := sum4_size s
  have ha := fun (w : World) => run_string_add_sum (P := Tryz.prog) w (textB s) (sum4 s) (by omega)
  have hm : s.size ≤ maxLen := by unfold maxLen; omega
  obtain ⟨N, hN⟩ : ∃ N, sumN s.data.toList = N := ⟨_, rfl⟩
  have HN : Hid _ := hN
  unfold sealB; clear hl h4 hN; go_enter Tryz.func70, Tryz.ntmps70; go_wp2_with fail
  refine (refText_yes s _ hs).mono ?_
  rintro e w1 ⟨rfl, b1⟩; go_wp2_with fail
  refine (refSum_nat s N _ hm HN.out).mono ?_
  rintro e w2 ⟨rfl, rfl⟩; go_wp2_with fail
  refine (four_sum s N _ HN.out).mono ?_
  rintro e w3 ⟨rfl, b3⟩; go_wp2; go_ret2; exact ⟨rfl, bel_trans b1 b3⟩
end Go.Proofs.YtcnflkjkgomnoaaGreat.Smm
