/- Part 26 of the proof: SpaceF1. -/
import Derived.Test.YtigomhilcnnjdaaGreatB16
import Derived.Test.YtigomhilcnnjdaaGreatB17
import Derived.Test.YtigomhilcnnjdaaGreatB21
import Derived.Test.YtigomhilcnnjdaaGreatB23
import Derived.Test.YtigomhilcnnjdaaGreatB25
import Derived.Defers
import Derived.Recover
import Derived.StillTailTactics

/- The contracts of space.refuse, taken, reason, within, newDir, newFile, copiedNode, find. -/
namespace Go.Proofs.YtigomhilcnnjdaaGreat.Spa
open Go.RowKit Go.Proofs.YtigomhilcnnjdaaGreat
open Go.Proofs.YtigomhilcnnjdaaGreat.Lea (LS Ls findX putL renX LL LO LsR)
open Go.Proofs.YtigomhilcnnjdaaGreat.Edi (Ed Nm EdAt edV)

/-- A call that ends in the panic of an error. -/
abbrev leftV (E : Int) : Ending := .panicked [{ v := .iface 27 (.int .i64 E), recovered := false }]

set_option maxRecDepth 100000 in
theorem within_val (n lo hi : Int) (v : Bool) (w : World) (hv : Edi.inB lo n hi = v) : Calls Tryz.prog 29 #[.int .i64 n, .int .i64 lo, .int .i64 hi] w fun e w' => e = .returned (.bool v) ∧ w' = w := by
  have hv2 : (decide (lo ≤ n) && decide (n ≤ hi)) = v := by rw [← hv]; unfold Edi.inB; simp
  clear hv
  cases h1 : decide (lo ≤ n) <;> cases h2 : decide (n ≤ hi) <;> rw [h1, h2] at hv2 <;> subst hv2
  all_goals
    go_enter Tryz.func29, Tryz.ntmps29
    go_wp2
    go_ret
    exact ⟨rfl, rfl⟩

set_option maxRecDepth 100000 in
theorem newDir_val (p : ByteArray) (w : World) : Calls Tryz.prog 21 #[.string p] w fun e w' => e = .returned (ndV ((⟨p, true, -1, [], -1⟩ : Nd), (⟨none, 0, 0⟩ : RS))) ∧ Below w.heap.size w w' := by
  have hst := run_store_str
  go_enter Tryz.func21, Tryz.ntmps21
  go_wp2
  exact bodyPost_ret (v := ndV ((⟨p, true, -1, [], -1⟩ : Nd), (⟨none, 0, 0⟩ : RS))) (by simp [results, Tryz.results21, go_sem, ndV]) rfl ⟨rfl, bel_al _ _⟩
inductive FindR (xs : NS) (p : ByteArray) : Int → Int → Prop
  | arg : pathB p = false → FindR xs p 0 1
  | none : pathB p = true → at? xs p = none → FindR xs p 0 5
  | ok (i : Nat) (x : Nd) : Is xs p i x → FindR xs p (i : Int) 0

end Go.Proofs.YtigomhilcnnjdaaGreat.Spa
