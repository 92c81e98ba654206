/- The contract of tree.ordered: a list of nodes of the call's own is sorted. -/
import Derived.Test.YtdcmhbodjmajcaaTreeSort
import Derived.Test.YtdcmhbodjmajcaaTreeF9
import Derived.Lib.Bytealg
namespace Go.Proofs.Ytdcmhbodjmajcaa
open Go.RowKit

set_option maxHeartbeats 1000000 in
set_option maxRecDepth 100000 in
theorem cmpString_val (a b : ByteArray) (w : World) :
    Calls Try.prog 80 #[.string a, .string b] w fun e w' => e = .returned (.int .i64 (Lib.compareBytes a.data.toList b.data.toList)) ∧ w' = w := by
  go_enter Try.func80, Try.ntmps80
  go_wp2
  rw [run_callFunc_extern Try.func96 (by kernel_rfl) (by kernel_rfl) (by kernel_rfl) (e := Extern.BytealgCompare.compare) (by kernel_rfl), Lib.run_compareString]
  simp only [Result.andThen]
  rw [Oper.upon_value]
  go_wp2
  go_ret
  exact ⟨rfl, rfl⟩

set_option maxRecDepth 100000 in
theorem compare_val (a b : ByteArray) (w : World) :
    Calls Try.prog 71 #[.string a, .string b] w fun e w' => e = .returned (.int .i64 (Lib.compareBytes a.data.toList b.data.toList)) ∧ w' = w := by
  go_enter Try.func71, Try.ntmps71
  go_wp2_with (refine (cmpString_val a b _).mono ?_; rintro e w1 ⟨rfl, rfl⟩)
  go_ret
  exact ⟨rfl, rfl⟩

def cmpN (x y : NR) : Int := Lib.compareBytes x.1.path.data.toList y.1.path.data.toList

set_option maxRecDepth 100000 in
theorem ordered1_val (x y : NR) (w : World) : Calls Try.prog 70 #[ndV x, ndV y] w fun e w' => e = .returned (.int .i64 (cmpN x y)) ∧ ∃ q os', w' = Sort.grow (w.drewN q) os' := by
  obtain ⟨⟨p, d, qu, bs, wr⟩, ⟨a, n, c⟩⟩ := x
  obtain ⟨⟨p2, d2, qu2, bs2, wr2⟩, ⟨a2, n2, c2⟩⟩ := y
  unfold ndV cmpN
  simp only
  obtain ⟨r, hr⟩ : ∃ r, Lib.compareBytes p.data.toList p2.data.toList = r := ⟨_, rfl⟩
  have CC : Hid (∀ W, Calls Try.prog 71 #[.string p, .string p2] W fun e w' => e = .returned (.int .i64 r) ∧ w' = W) := fun W => by rw [← hr]; exact compare_val p p2 W
  rw [hr]
  clear hr
  go_enter Try.func70, Try.ntmps70
  go_wp2_with (refine (CC.out _).mono ?_; rintro e w1 ⟨rfl, rfl⟩)
  go_ret
  exact ⟨rfl, 0, _, by rw [Sort.alloc_eq_grow, Sort.alloc_eq_grow, Sort.grow_grow]; rfl⟩

end Go.Proofs.Ytdcmhbodjmajcaa
