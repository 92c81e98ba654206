/- A log that came in, opened. -/
import Derived.Test.YtapnjgmihfmapaaLogR0
import Derived.Test.YtapnjgmihfmapaaOpenAll
import Derived.Deep.Slices
import Derived.SizedLaws
namespace Go.Proofs.Ytapnjgmihfmapaa.Lgg
open Go.ChangeShapes Go.WideShapes Go.ChangeAt Go.RowKit Go.Proofs.Ytapnjgmihfmapaa
set_option linter.unusedVariables false

section
variable {H : Type} {enc : TypeId × Value → H} {W : World} {base : Nat} {spare : Nat → Bool} {held : Bool}

theorem weightsAll_mem {P : Program} {e : TypeId} : ∀ {ds : List (DataW H)} {d : DataW H}, d ∈ ds → ∀ n ∈ d.weights P e, n ∈ DataW.weightsAll P e ds
  | [], _, h, _, _ => by cases h
  | d0 :: ds, d, h, n, hn => by
    simp only [DataW.weightsAll, List.mem_append]
    rcases List.mem_cons.1 h with rfl | h
    · exact .inl hn
    · exact .inr (weightsAll_mem h n hn)

set_option maxRecDepth 100000 in
/-- A row of elements, each of which can be opened. -/
theorem open_rows {α : Type} [Inhabited α] {f : α → List Value} {k B : Nat} {T E : TypeId} {Q R : α → Prop} (hf : Wide f k) (hk : 0 < k) (hu : Try.prog.underlying T = some (.slice E)) (hc : Try.prog.cellsOf E = k) (hB : Try.prog.bytesOf E = B)
    (ho : ∀ (n : Nat) (cs : List Value) (y : DataW H × List MemPlace), DataW.trod enc Try.prog W base spare held n E cs = some y → ∃ x, cs = f x ∧ Q x ∧ ((∀ q ∈ y.1.weights Try.prog E, q ≤ reachBytes) → R x))
    {n : Nat} {v : Value} {y : DataW H × List MemPlace} (h : DataW.trod enc Try.prog W base spare held n T [v] = some y) :
    ∃ (a : Option Addr) (m c : Nat) (xs : List α), v = .slice a m c ∧ xs.length = m ∧ Lie f (fun b => b < W.heap.size) W a xs ∧ (∀ x ∈ xs, Q x) ∧ ((∀ q ∈ y.1.weights Try.prog T, q ≤ reachBytes) → m * B ≤ reachBytes ∧ ∀ x ∈ xs, R x) := by
  rcases Go.Deep.open_slice hu h with ⟨hcs, _⟩ | ⟨x, len, cap, m, j0, D, Pl, hcs, hb, hl, hm, hmm, hd, hx⟩
  · simp at hcs
    subst hcs
    exact ⟨none, 0, 0, [], rfl, rfl, Lie.nil _ _ _ _, fun x hx => (by cases hx), fun _ => ⟨by omega, fun x hx => (by cases hx)⟩⟩
  · simp at hcs
    subst hcs
    have hlm : len ≤ m := by rw [hmm]; split <;> omega
    rw [hc] at hx
    obtain ⟨b, off, spot⟩ := x
    have each : ∀ j, j < m → ∃ x : α, (∀ i u, (f x)[i]? = some u → W.cell? (((⟨b, off, spot⟩ : Addr).add (j * k)).add i) = some u) ∧ Q x ∧ ((∀ q ∈ (D j).weights Try.prog E, q ≤ reachBytes) → R x) := fun j hj => by
      obtain ⟨cs', h1, h2⟩ := hx j hj
      obtain ⟨_, hlen, hcell⟩ := World.cells?_some h1
      obtain ⟨x, rfl, k1, k2⟩ := ho _ _ _ h2
      refine ⟨x, fun i u hv => ?_, k1, k2⟩
      have hi : i < k := by have := (List.getElem?_eq_some_iff.1 hv).1; rwa [hf.len] at this
      rw [hcell i hi]; exact hv
    obtain ⟨q, hq⟩ := Go.Deep.choose_lt each
    have hspot : 0 < len → spot = none := fun hp => by
      have hl0 : 0 < (f (q 0)).length := by rw [hf.len]; exact hk
      have h0 := (hq 0 (by omega)).1 0 _ (List.getElem?_eq_getElem hl0)
      have := World.cell?_spot h0
      simpa [Addr.add] using this
    refine ⟨some ⟨b, off, spot⟩, len, cap, (List.range len).map q, rfl, by simp, ⟨by simp; omega, fun hp => ?_⟩, fun x hx => ?_, fun hw => ⟨?_, fun x hx => ?_⟩⟩
    · have hp' : 0 < len := by simpa using hp
      have hsp := hspot hp'
      subst hsp
      have hcell : ∀ j i u, j < len → (f (q j))[i]? = some u → W.cell? ⟨b, off + j * k + i, none⟩ = some u := fun j i u hj hu => by
        have h0 := (hq j (by omega)).1 i u hu
        rw [Addr.add_lit, Addr.add_lit] at h0
        exact h0
      have hl0 : 0 < (f (q 0)).length := by rw [hf.len]; exact hk
      have h00 := hcell 0 0 _ hp' (List.getElem?_eq_getElem hl0)
      refine ⟨b, off, rfl, World.block_lt_of_cell? _ _ h00, World.block_lt_of_cell? _ _ h00, fun j u hu => ?_⟩
      have hjl := (List.getElem?_eq_some_iff.1 hu).1
      rw [rowC_len hf] at hjl
      have hjk : j / k < ((List.range len).map q).length := by
        rw [Nat.div_lt_iff_lt_mul hk]; exact hjl
      have hjk2 : j / k < len := by simpa using hjk
      have hmod := Nat.mod_lt j hk
      have e := rowC_at hf ((List.range len).map q) (j / k) hjk (j % k) hmod
      have ej : j / k * k + j % k = j := by rw [Nat.mul_comm]; exact Nat.div_add_mod j k
      rw [ej, hu] at e
      have e1 : ((List.range len).map q)[j / k] = q (j / k) := by simp
      rw [e1] at e
      have := hcell (j / k) (j % k) u hjk2 e.symm
      rw [Nat.add_assoc, ej] at this
      exact this
    · obtain ⟨j, hj, rfl⟩ := List.mem_map.1 hx
      exact (hq j (by have := List.mem_range.1 hj; omega)).2.1
    · have hd' : y.1 = _ := congrArg Prod.fst hd
      have hin : (len + (m - len)) * B ∈ y.1.weights Try.prog T := by
        rw [hd']
        show _ ∈ DataW.weights Try.prog T (.slice _ _)
        unfold DataW.weights
        rw [hu]
        simp [hB]
      have h1 := hw _ hin
      exact Nat.le_trans (Nat.mul_le_mul_right _ (Nat.le_add_right _ _)) h1
    · obtain ⟨j, hj, rfl⟩ := List.mem_map.1 hx
      have hj' := List.mem_range.1 hj
      refine (hq j (by omega)).2.2 fun r hr => hw r ?_
      have hd' : y.1 = _ := congrArg Prod.fst hd
      rw [hd']
      show _ ∈ DataW.weights Try.prog T (.slice _ _)
      unfold DataW.weights
      rw [hu]
      exact List.mem_cons_of_mem _ (List.mem_append_left _ (weightsAll_mem (d := D j) (List.mem_map.2 ⟨j, hj, rfl⟩) _ hr))

set_option maxRecDepth 100000 in
theorem open_en {n : Nat} {cs : List Value} {y : DataW H × List MemPlace} (h : DataW.trod enc Try.prog W base spare held n 28 cs = some y) : ∃ x : En, cs = enC x ∧ x.d.size ≤ maxLen := by
  have c2 : Try.prog.cellsOf 28 = 2 := by kernel_rfl
  have ci : Try.prog.cellsOf 3 = 1 := by kernel_rfl
  have cs1 : Try.prog.cellsOf 9 = 1 := by kernel_rfl
  obtain ⟨xs, k, hk, hxy, hl, hxl, hfld⟩ := DataW.trod_struct Try.underlying28 h
  rw [c2] at hl
  have hx2 : xs.length = 2 := hxl
  match cs, hl with
  | [v0, v1], _ =>
    have g0 : DataW.trod enc Try.prog W base spare held k 3 (([v0, v1].drop 0).take (Try.prog.cellsOf 3)) = xs[0]? := hfld 0 _ rfl
    have g1 : DataW.trod enc Try.prog W base spare held k 9 (([v0, v1].drop 1).take (Try.prog.cellsOf 9)) = xs[1]? := hfld 1 _ rfl
    rw [ci, List.getElem?_eq_getElem (by omega)] at g0
    rw [cs1, List.getElem?_eq_getElem (by omega)] at g1
    change DataW.trod enc Try.prog W base spare held k 3 [v0] = some _ at g0
    change DataW.trod enc Try.prog W base spare held k 9 [v1] = some _ at g1
    obtain ⟨i0, e0, _, _⟩ := DataW.trod_int Try.underlying3 g0
    obtain ⟨s1, e1, _, w1⟩ := DataW.trod_string Try.underlying9 g1
    simp at e0 e1
    subst e0 e1
    exact ⟨⟨i0, s1⟩, rfl, w1⟩

/-- A log that came in. -/
structure LgIn (W : World) (a : Option Addr) (es : List En) : Prop where
  row : Lie enC (fun b => b < W.heap.size) W a es
  small : ∀ x ∈ es, x.d.size ≤ maxLen

set_option maxRecDepth 100000 in
theorem open_log {v : Value} {d : DataW H} {ps : List MemPlace} {r : Reach} {b0 : Nat} (hval : Value.okWide Try.prog W r b0 31 v) (h : DataW.Trod enc Try.prog W base spare held 31 v d ps) : ∃ (ep : Int) (a : Option Addr) (c : Nat) (es : List En), v = .agg #[.int .i64 ep, .slice a es.length c] ∧ LgIn W a es := by
  obtain ⟨cs, rfl, hsz⟩ := okWide_struct Try.underlying31 hval
  obtain ⟨fuel, hf⟩ := h
  have c2 : Try.prog.cellsOf 31 = 2 := by kernel_rfl
  have ci : Try.prog.cellsOf 3 = 1 := by kernel_rfl
  have cl : Try.prog.cellsOf 24 = 1 := by kernel_rfl
  have hf2 : DataW.trod enc Try.prog W base spare held fuel 31 cs.toList = some (d, ps) := by simpa [Value.cells] using hf
  obtain ⟨xs, k, hk, hxy, hl, hxl, hfld⟩ := DataW.trod_struct Try.underlying31 hf2
  rw [c2] at hl
  have hx2 : xs.length = 2 := hxl
  obtain ⟨cl2⟩ := cs
  simp only at hl hfld hf2
  match cl2, hl with
  | [v0, v1], _ =>
    have g0 : DataW.trod enc Try.prog W base spare held k 3 (([v0, v1].drop 0).take (Try.prog.cellsOf 3)) = xs[0]? := hfld 0 _ rfl
    have g1 : DataW.trod enc Try.prog W base spare held k 24 (([v0, v1].drop 1).take (Try.prog.cellsOf 24)) = xs[1]? := hfld 1 _ rfl
    rw [ci, List.getElem?_eq_getElem (by omega)] at g0
    rw [cl, List.getElem?_eq_getElem (by omega)] at g1
    change DataW.trod enc Try.prog W base spare held k 3 [v0] = some _ at g0
    change DataW.trod enc Try.prog W base spare held k 24 [v1] = some _ at g1
    obtain ⟨i0, e0, _, _⟩ := DataW.trod_int Try.underlying3 g0
    obtain ⟨a, m, c, es, e1, hm, hL, hQ, _⟩ := open_rows (Q := fun x : En => x.d.size ≤ maxLen) (R := fun _ => True) wideN (by omega) Try.underlying24 (by kernel_rfl) (B := 24) (by kernel_rfl) (fun n cs y h => by obtain ⟨x, e, k⟩ := open_en h; exact ⟨x, e, k, fun _ => trivial⟩) g1
    simp at e0
    subst e0 e1 hm
    exact ⟨i0, a, c, es, rfl, hL, hQ⟩
end

end Go.Proofs.Ytapnjgmihfmapaa.Lgg
