/- Plain: what is committed, and the best log. -/
import Derived.Test.YtapnjgmihfmapaaChsS
namespace Go.Proofs.Ytapnjgmihfmapaa.Chs
open Go.RowKit Go.Proofs.Ytapnjgmihfmapaa Go.Proofs.Ytapnjgmihfmapaa.Lgg
set_option linter.unusedVariables false

theorem com_at {xs : List Ls} {N : Nat} {e : Int} (hN : 1 ≤ N) (ht : topI xs N xs.length = some e) : (comT xs N).length = kth xs e N := by
  obtain ⟨q, hq, h1, _, h3, _⟩ := com_some hN ht
  unfold okL at h1
  simp only [Bool.and_eq_true, decide_eq_true_eq] at h1
  rw [h3, List.length_take]
  omega
theorem top_of_max {xs : List Ls} {N : Nat} {e : Int} (hN : 1 ≤ N) (hm : ∀ x ∈ xs, x.ep ≤ e) (h : N ≤ kN xs e 0) : topI xs N xs.length = some e := by
  have ht := topI_top xs N hN xs.length (Nat.le_refl _)
  rw [List.take_length] at ht
  refine ht.same (o' := some e) ⟨h, fun e' he => ?_⟩
  obtain ⟨x, hx, h1, _⟩ := kN_ex (xs := xs) (e := e') (k := 0) (by omega)
  rw [← h1]; exact hm x hx
theorem best_max {xs : List Ls} {b : Nat} (hb : b < xs.length) (hB : bestI xs xs.length = (b : Int)) : ∀ (j : Nat) (hj : j < xs.length), btr xs[j] xs[b] = false := fun j hj => by
  have := best_is xs xs.length j hj
  rwa [hB, Int.toNat_natCast, getD_in hj, getD_in hb] at this
theorem best_ep {xs : List Ls} {b : Nat} (hb : b < xs.length) (hB : bestI xs xs.length = (b : Int)) : ∀ x ∈ xs, x.ep ≤ xs[b].ep := fun x hx => by
  obtain ⟨j, hj, rfl⟩ := List.getElem_of_mem hx
  have := best_max hb hB j hj
  unfold btr at this
  split at this
  · omega
  · have := of_decide_eq_false this
    omega
theorem best_en {xs : List Ls} {b : Nat} (hb : b < xs.length) (hB : bestI xs xs.length = (b : Int)) : ∀ x ∈ xs, x.ep = xs[b].ep → x.es.length ≤ xs[b].es.length := fun x hx he => by
  obtain ⟨j, hj, rfl⟩ := List.getElem_of_mem hx
  have := best_max hb hB j hj
  unfold btr at this
  rw [if_pos he] at this
  have := of_decide_eq_false this
  omega
theorem kN_pos {xs : List Ls} {b : Nat} (hb : b < xs.length) : 1 ≤ kN xs xs[b].ep 0 := by
  unfold kN
  exact List.countP_pos_iff.2 ⟨xs[b], List.getElem_mem hb, by simp⟩
theorem com_more {xs : List Ls} {y : Ls} {N b : Nat} (hN : 1 ≤ N) (hb : b < xs.length) (hB : bestI xs xs.length = (b : Int)) (he : y.ep = xs[b].ep) (h : N ≤ kN xs xs[b].ep 0) : (comT xs N).length ≤ (comT (xs ++ [y]) N).length := by
  have h2 : ∀ k, kN xs xs[b].ep k ≤ kN (xs ++ [y]) xs[b].ep k := fun k => by rw [kN_app]; omega
  have h3 : N ≤ kN (xs ++ [y]) xs[b].ep 0 := Nat.le_trans h (h2 0)
  have t1 := top_of_max hN (best_ep hb hB) h
  have t2 := top_of_max (xs := xs ++ [y]) hN (fun x hx => by
    rcases List.mem_append.1 hx with hx | hx
    · exact best_ep hb hB x hx
    · rw [List.mem_singleton.1 hx, he]; exact Int.le_refl _) h3
  rw [com_at hN t1, com_at hN t2]
  exact (kth_is hN h3 _).2 (Nat.le_trans ((kth_is hN h _).1 (Nat.le_refl _)) (h2 _))

end Go.Proofs.Ytapnjgmihfmapaa.Chs
