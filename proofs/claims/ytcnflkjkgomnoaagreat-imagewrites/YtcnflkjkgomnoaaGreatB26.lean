/- Part 26 of the proof: SpaceF1. -/
import Derived.Test.YtcnflkjkgomnoaaGreatB16
import Derived.Test.YtcnflkjkgomnoaaGreatB17
import Derived.Test.YtcnflkjkgomnoaaGreatB21
import Derived.Test.YtcnflkjkgomnoaaGreatB23
import Derived.Test.YtcnflkjkgomnoaaGreatB25
import Derived.Defers
import Derived.Recover
import Derived.StillTailTactics
set_option maxRecDepth 100000
set_option maxHeartbeats 8000000
namespace Go.Proofs.YtcnflkjkgomnoaaGreat.Spa
open Go.RowKit Go.Proofs.YtcnflkjkgomnoaaGreat
open Go.Proofs.YtcnflkjkgomnoaaGreat.Lea (LS Ls findX putL renX LL LO LsR)
open Go.Proofs.YtcnflkjkgomnoaaGreat.Edi (Ed Nm EdAt edV)
theorem within_val (n lo hi : Int) (v : Bool) (w : World) (hv : Edi.inB lo n hi = v) : Calls Tryz.prog 41 #[.int .i64 n, .int .i64 lo, .int .i64 hi] w fun e w' => e = .returned (.bool v) ∧ w' = w := by
  have hv2 : (decide (lo ≤ n) && decide (n ≤ hi)) = v := by rw [← hv]; unfold Edi.inB; simp
  clear hv; cases h1 : decide (lo ≤ n) <;> cases h2 : decide (n ≤ hi) <;> rw [h1, h2] at hv2 <;> subst hv2
  all_goals
    go_enter Tryz.func41, Tryz.ntmps41; go_wp2; go_ret; exact ⟨rfl, rfl⟩
theorem newDir_val (p : ByteArray) (w : World) : Calls Tryz.prog 18 #[.string p] w fun e w' => e = .returned (ndV ((⟨p, true, -1, [], -1⟩ : Nd), (⟨none, 0, 0⟩ : RS))) ∧ Below w.heap.size w w' := by
  have hst := run_store_str
  go_enter Tryz.func18, Tryz.ntmps18; go_wp2; exact bodyPost_ret (v := ndV ((⟨p, true, -1, [], -1⟩ : Nd), (⟨none, 0, 0⟩ : RS))) (by simp [results, Tryz.results18, go_sem, ndV]) rfl ⟨rfl, bel_al _ _⟩
end Go.Proofs.YtcnflkjkgomnoaaGreat.Spa
