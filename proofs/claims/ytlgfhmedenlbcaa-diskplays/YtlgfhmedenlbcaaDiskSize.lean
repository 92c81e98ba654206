/- The sizes of deeds that came in. -/
import Derived.Test.YtlgfhmedenlbcaaDiskDeed
import Derived.SizedLaws
namespace Go.Proofs.Ytlgfhmedenlbcaa
open Go.ChangeShapes Go.WideShapes Go.ChangeAt Go.RowKit

theorem weightsAll_mem {H : Type} {P : Program} {e : TypeId} : ∀ {ds : List (DataW H)} {d : DataW H}, d ∈ ds → ∀ n ∈ d.weights P e, n ∈ DataW.weightsAll P e ds
  | [], _, h, _, _ => by cases h
  | d0 :: ds, d, h, n, hn => by
    simp only [DataW.weightsAll, List.mem_append]
    rcases List.mem_cons.1 h with rfl | h
    · exact .inl hn
    · exact .inr (weightsAll_mem h n hn)

set_option maxRecDepth 100000 in
theorem deeds_sized {H : Type} {enc : TypeId × Value → H} {W : World} {base : Nat} {spare : Nat → Bool} {held : Bool} {b off len cap : Nat} {d : DataW H} {ps : List MemPlace}
    (h : DataW.Trod enc Try.prog W base spare held 22 (.slice (some ⟨b, off, none⟩) len cap) d ps) (hw : ∀ x ∈ d.weights Try.prog 22, x ≤ reachBytes) (j : Nat) (hj : j < len) (s : ByteArray) (hc : W.cell? ⟨b, off + j * 6 + 3, none⟩ = some (.string s)) : s.size ≤ reachBytes := by
  have hc6 : Try.prog.cellsOf 31 = 6 := by kernel_rfl
  have cs1 : Try.prog.cellsOf 9 = 1 := by kernel_rfl
  obtain ⟨fuel, hf⟩ := h
  rcases Go.Deep.open_slice Try.underlying22 hf with ⟨hcs, _⟩ | ⟨x, l, c, m, n, D, Pl, hcs, hb, hl, hm, hmm, hd, hx⟩
  · simp [Value.cells] at hcs
  · simp [Value.cells] at hcs
    obtain ⟨rfl, rfl, rfl⟩ := hcs
    have hlm : len ≤ m := by rw [hmm]; split <;> omega
    obtain ⟨cs', h1, h2⟩ := hx j (by omega)
    rw [hc6] at h1
    obtain ⟨_, hlen, hcell⟩ := World.cells?_some h1
    obtain ⟨xs, k, hk, hxy, _, hxl, hfld⟩ := DataW.trod_struct Try.underlying31 h2
    have c3 := hcell 3 (by omega)
    rw [Addr.add_lit, Addr.add_lit, hc] at c3
    match cs', hlen with
    | [v0, v1, v2, v3, v4, v5], _ =>
      have e3 : Value.string s = v3 := by simpa using c3
      have g3 : DataW.trod enc Try.prog W base spare held k 9 (([v0, v1, v2, v3, v4, v5].drop 3).take (Try.prog.cellsOf 9)) = xs[3]? := hfld 3 _ rfl
      rw [cs1] at g3
      change DataW.trod enc Try.prog W base spare held k 9 [v3] = xs[3]? at g3
      have h3 : 3 < xs.length := by rw [hxl]; decide
      rw [List.getElem?_eq_getElem h3] at g3
      obtain ⟨s', e1, e2, _⟩ := DataW.trod_string Try.underlying9 g3
      have es : s' = s := by rw [← e3] at e1; simpa using e1.symm
      subst es
      have hD : D j = .agg (xs.map (·.1)) := congrArg Prod.fst hxy
      have hmem : s'.data.toList.length ∈ (D j).weights Try.prog 31 := by
        rw [hD]
        unfold DataW.weights
        rw [Try.underlying31]
        refine DataW.weights_mem_each (j := 3) (t := 9) (d := .lit (.string s'.data.toList)) rfl ?_ _ (by simp [DataW.weights])
        rw [List.getElem?_map, List.getElem?_eq_getElem h3, e2]
        rfl
      have hin : s'.data.toList.length ∈ d.weights Try.prog 22 := by
        have hd' : d = _ := congrArg Prod.fst hd
        rw [hd']
        show _ ∈ DataW.weights Try.prog 22 (.slice _ _)
        unfold DataW.weights
        rw [Try.underlying22]
        refine List.mem_cons_of_mem _ (List.mem_append_left _ (weightsAll_mem (d := D j) ?_ _ hmem))
        exact List.mem_map.2 ⟨j, List.mem_range.2 hj, rfl⟩
      have := hw _ hin
      rwa [Array.length_toList] at this

theorem deeds_all {H : Type} {enc : TypeId × Value → H} {W : World} {base : Nat} {spare : Nat → Bool} {held : Bool} {a : Option Addr} {b off cap : Nat} {us : List DeedV} {d : DataW H} {ps : List MemPlace}
    (h : DataW.Trod enc Try.prog W base spare held 22 (.slice a us.length cap) d ps) (hU : Deeds W a b off us) (hw : ∀ x ∈ d.weights Try.prog 22, x ≤ reachBytes) : ∀ u ∈ us, u.d.size ≤ 140737488355328 := by
  intro u hu
  obtain ⟨j, hj, rfl⟩ := List.getElem_of_mem hu
  obtain rfl := hU.addr (by omega)
  have := deeds_sized h hw j hj _ (hU.cell j hj).2.2.2.1
  have := reachBytes_lt
  omega

end Go.Proofs.Ytlgfhmedenlbcaa
