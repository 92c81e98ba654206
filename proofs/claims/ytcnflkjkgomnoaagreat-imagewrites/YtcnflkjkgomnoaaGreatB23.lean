/- Part 23 of the proof: TreeFA, TreeFB, TreeFC, TreeFD, TreeFE. -/
import Derived.Test.YtcnflkjkgomnoaaGreatB15
import Derived.Test.YtcnflkjkgomnoaaGreatB18
import Derived.Test.YtcnflkjkgomnoaaGreatB22
import Derived.Lib.Bytealg
set_option maxRecDepth 100000
set_option maxHeartbeats 8000000
namespace Go.Proofs.YtcnflkjkgomnoaaGreat
open Go.RowKit
def cmpN (x y : NR) : Int := Lib.compareBytes x.1.path.data.toList y.1.path.data.toList
theorem ltOf_cmp (x y : NR) : ltOf cmpN x y = ltB x.1.path y.1.path := by
  unfold ltOf cmpN ltB; rw [cmp_lt, Lib.toList_data, Lib.toList_data]
theorem Lot.push {base : Nat} {w2 w3 w5 : World} {fa : Option Addr} {fn fc : Nat} {qs : List NR} {g : Option Nat} (hL : Lot base w2 fa fn fc qs g) (hB : base ≤ w2.heap.size) {x : Nd} {s : RS} (hF : Free w2.heap.size w3 (x, s)) (B2 : Below w2.heap.size w2 w3) {o : Obj} {a2 : Option Addr} {c2 : Nat} {g5 : Option Nat}
    (hC : Cel (Grow (fun k => base ≤ k) (w3.alloc o) w5) w5 5 (.slice a2 (fn + 1) c2) (fn + 1) (rowC ndC qs ++ rowC ndC [(x, s)]) g5) (hS : Stay (fun k => g = some k) (w3.alloc o) w5) (hg : ∀ k, g5 = some k → g = some k ∨ (w3.alloc o).heap.size ≤ k) : Lot base w5 a2 (fn + 1) c2 (qs ++ [(x, s)]) g5 ∧ Below base w2 w5 := by
  have B3 : Below w2.heap.size w2 (w3.alloc o) := bel_tr B2 (bel_al _ _)
  have z2 := B3.size
  have hge : ∀ k, g = some k → k < w2.heap.size ∧ base ≤ k := fun k hk => by have := hL.cel; rw [hk] at this; exact this.lt
  have hF2 := hF.below (bel_al w3 o)
  refine ⟨(hL.below B3).app (qs := [(x, s)]) (fun y hy => ?_) (fun y hy k hk e => ?_) rfl hC hS hg (by omega), ?_⟩
  · rw [List.mem_singleton.1 hy]; exact hF2.mono hB
  · rw [List.mem_singleton.1 hy] at e
    have := hF2.blk_ge k e
    have := (hge k hk).1
    omega
  · exact (B3.mono hB).trans (hS.below (by omega) (fun k hk => (hge k hk).2))
end Go.Proofs.YtcnflkjkgomnoaaGreat
