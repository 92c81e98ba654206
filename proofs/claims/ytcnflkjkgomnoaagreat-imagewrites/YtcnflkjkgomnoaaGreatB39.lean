/- Part 39 of the proof: WireRefT, WireTextR. -/
import Derived.Test.YtcnflkjkgomnoaaGreatB03
import Derived.Deep.RegionWith
set_option maxRecDepth 100000
set_option maxHeartbeats 8000000
namespace Go.Proofs.YtcnflkjkgomnoaaGreat.Wir
open Go.RowKit Go.Proofs.YtcnflkjkgomnoaaGreat
theorem refText_yes (s : ByteArray) (w : World) (hs : s.size ≤ 4000) :
    Calls Tryz.prog 33 #[.string s] w fun e w' => e = .returned (.tuple #[.string (textB s), .bool true]) ∧ Below w.heap.size w w' := by
  have hl := numB_len (n := (s.size : Int)) (by omega) (by omega)
  have ha := fun (w : World) => run_string_add_sum (P := Tryz.prog) w ⟨(numB s.size).toArray⟩ s (by rw [mk_size]; omega)
  go_enter Tryz.func33, Tryz.ntmps33; go_wp2_with fail
  refine (refNum_any (s.size : Int) _ (by omega) (by omega)).mono ?_
  rintro e w1 ⟨rfl, b1⟩; go_wp2; go_ret2; exact ⟨rfl, b1⟩
end Go.Proofs.YtcnflkjkgomnoaaGreat.Wir
