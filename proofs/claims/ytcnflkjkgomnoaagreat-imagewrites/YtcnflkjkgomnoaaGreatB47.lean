/- Part 47 of the proof: TreeOpen. -/
import Derived.Test.YtcnflkjkgomnoaaGreatB14
import Derived.Test.YtcnflkjkgomnoaaGreatB29
import Derived.Deep.Slices
import Derived.SizedLaws
set_option maxRecDepth 100000
set_option maxHeartbeats 8000000
namespace Go.Proofs.YtcnflkjkgomnoaaGreat
open Go.ChangeShapes Go.WideShapes Go.ChangeAt Go.RowKit
section
variable {H : Type} {enc : TypeId × Value → H} {W : World} {base : Nat} {spare : Nat → Bool} {held : Bool}
theorem weightsAll_mem {P : Program} {e : TypeId} : ∀ {ds : List (DataW H)} {d : DataW H}, d ∈ ds → ∀ n ∈ d.weights P e, n ∈ DataW.weightsAll P e ds
  | [], _, h, _, _ => by cases h
  | d0 :: ds, d, h, n, hn => by
    simp only [DataW.weightsAll, List.mem_append]
    rcases List.mem_cons.1 h with rfl | h
    · exact .inl hn
    · exact .inr (weightsAll_mem h n hn)
theorem open_blk {n : Nat} {cs : List Value} {y : DataW H × List MemPlace} (h : DataW.trod enc Tryz.prog W base spare held n 31 cs = some y) : ∃ b : Blk, cs = blkC b := by
  have c3 : Tryz.prog.cellsOf 31 = 3 := by kernel_rfl
  have ci : Tryz.prog.cellsOf 3 = 1 := by kernel_rfl
  obtain ⟨xs, k, hk, hxy, hl, hxl, hfld⟩ := DataW.trod_struct Tryz.underlying31 h
  rw [c3] at hl
  have hx3 : xs.length = 3 := hxl
  match cs, hl with
  | [v0, v1, v2], _ =>
    have g0 : DataW.trod enc Tryz.prog W base spare held k 3 (([v0, v1, v2].drop 0).take (Tryz.prog.cellsOf 3)) = xs[0]? := hfld 0 _ rfl
    have g1 : DataW.trod enc Tryz.prog W base spare held k 3 (([v0, v1, v2].drop 1).take (Tryz.prog.cellsOf 3)) = xs[1]? := hfld 1 _ rfl
    have g2 : DataW.trod enc Tryz.prog W base spare held k 3 (([v0, v1, v2].drop 2).take (Tryz.prog.cellsOf 3)) = xs[2]? := hfld 2 _ rfl
    rw [ci, List.getElem?_eq_getElem (by omega)] at g0 g1 g2
    change DataW.trod enc Tryz.prog W base spare held k 3 [v0] = some _ at g0
    change DataW.trod enc Tryz.prog W base spare held k 3 [v1] = some _ at g1
    change DataW.trod enc Tryz.prog W base spare held k 3 [v2] = some _ at g2
    obtain ⟨i0, e0, _, _⟩ := DataW.trod_int Tryz.underlying3 g0
    obtain ⟨i1, e1, _, _⟩ := DataW.trod_int Tryz.underlying3 g1
    obtain ⟨i2, e2, _, _⟩ := DataW.trod_int Tryz.underlying3 g2
    simp at e0 e1 e2
    subst e0 e1 e2; exact ⟨⟨i0, i1, i2⟩, rfl⟩
theorem open_blks {n : Nat} {v : Value} {y : DataW H × List MemPlace} (h : DataW.trod enc Tryz.prog W base spare held n 33 [v] = some y) : ∃ (s : RS) (bs : List Blk), v = .slice s.a s.n s.c ∧ Blks W s bs ∧ ((∀ q ∈ y.1.weights Tryz.prog 33, q ≤ reachBytes) → s.n * 24 ≤ reachBytes) := by
  have c3 : Tryz.prog.cellsOf 31 = 3 := by kernel_rfl
  have hb24 : Tryz.prog.bytesOf 31 = 24 := by kernel_rfl
  rcases Go.Deep.open_slice Tryz.underlying33 h with ⟨hcs, _⟩ | ⟨x, len, cap, m, k, D, Pl, hcs, hb, hl, hm, hmm, hd, hx⟩
  · simp at hcs
    subst hcs; exact ⟨⟨none, 0, 0⟩, [], rfl, ⟨rfl, Nat.zero_le _, fun _ => rfl, fun hp => absurd hp (Nat.lt_irrefl 0)⟩, fun _ => Nat.zero_le _⟩
  · simp at hcs
    subst hcs; have hlm : len ≤ m := by rw [hmm]; split <;> omega
    rw [c3] at hx
    obtain ⟨b, off, spot⟩ := x
    have each : ∀ j, j < m → ∃ bk : Blk, ∀ i v, (blkC bk)[i]? = some v → W.cell? (((⟨b, off, spot⟩ : Addr).add (j * 3)).add i) = some v := fun j hj => by
      obtain ⟨cs', h1, h2⟩ := hx j hj
      obtain ⟨_, hlen, hcell⟩ := World.cells?_some h1
      obtain ⟨bk, rfl⟩ := open_blk h2
      refine ⟨bk, fun i v hv => ?_⟩
      have hi : i < 3 := by have := (List.getElem?_eq_some_iff.1 hv).1; rwa [wideB.len] at this
      rw [hcell i hi]; exact hv
    obtain ⟨q, hq⟩ := Go.Deep.choose_lt each
    have hspot : 0 < len → spot = none := fun hp => by
      have h0 := hq 0 (by omega) 0 _ rfl
      have := World.cell?_spot h0
      simpa [Addr.add] using this
    refine ⟨⟨some ⟨b, off, spot⟩, len, cap⟩, (List.range len).map q, rfl, ⟨by simp, by show len ≤ maxLen; omega, fun e => (by cases e), fun hp => ?_⟩, fun hw => ?_⟩
    · have hsp := hspot hp
      subst hsp; refine ⟨b, off, rfl, fun j hj i v hv => ?_⟩
      have hj' : j < len := by simpa using hj
      have e1 : ((List.range len).map q)[j] = q j := by simp
      rw [e1] at hv
      have h0 := hq j (by omega) i v hv
      rw [Addr.add_lit, Addr.add_lit] at h0
      exact h0
    · have hd' : y.1 = _ := congrArg Prod.fst hd
      have hin : (len + (m - len)) * 24 ∈ y.1.weights Tryz.prog 33 := by
        rw [hd']
        show _ ∈ DataW.weights Tryz.prog 33 (.slice _ _)
        unfold DataW.weights; rw [Tryz.underlying33]
        simp [hb24]
      have := hw _ hin
      show len * 24 ≤ reachBytes
      omega
theorem open_nd {n : Nat} {cs : List Value} {y : DataW H × List MemPlace} (h : DataW.trod enc Tryz.prog W base spare held n 35 cs = some y) : ∃ x : NR, cs = ndC x ∧ NdOk W x ∧ ((∀ q ∈ y.1.weights Tryz.prog 35, q ≤ reachBytes) → x.2.n * 24 ≤ reachBytes) := by
  have c5 : Tryz.prog.cellsOf 35 = 5 := by kernel_rfl
  have ci : Tryz.prog.cellsOf 3 = 1 := by kernel_rfl
  have cs1 : Tryz.prog.cellsOf 9 = 1 := by kernel_rfl
  have cb : Tryz.prog.cellsOf 4 = 1 := by kernel_rfl
  have cl : Tryz.prog.cellsOf 33 = 1 := by kernel_rfl
  obtain ⟨xs, k, hk, hxy, hl, hxl, hfld⟩ := DataW.trod_struct Tryz.underlying35 h
  rw [c5] at hl
  have hx5 : xs.length = 5 := hxl
  match cs, hl with
  | [v0, v1, v2, v3, v4], _ =>
    have g0 : DataW.trod enc Tryz.prog W base spare held k 9 (([v0, v1, v2, v3, v4].drop 0).take (Tryz.prog.cellsOf 9)) = xs[0]? := hfld 0 _ rfl
    have g1 : DataW.trod enc Tryz.prog W base spare held k 4 (([v0, v1, v2, v3, v4].drop 1).take (Tryz.prog.cellsOf 4)) = xs[1]? := hfld 1 _ rfl
    have g2 : DataW.trod enc Tryz.prog W base spare held k 3 (([v0, v1, v2, v3, v4].drop 2).take (Tryz.prog.cellsOf 3)) = xs[2]? := hfld 2 _ rfl
    have g3 : DataW.trod enc Tryz.prog W base spare held k 33 (([v0, v1, v2, v3, v4].drop 3).take (Tryz.prog.cellsOf 33)) = xs[3]? := hfld 3 _ rfl
    have g4 : DataW.trod enc Tryz.prog W base spare held k 3 (([v0, v1, v2, v3, v4].drop 4).take (Tryz.prog.cellsOf 3)) = xs[4]? := hfld 4 _ rfl
    rw [cs1, List.getElem?_eq_getElem (by omega)] at g0
    rw [cb, List.getElem?_eq_getElem (by omega)] at g1
    rw [ci, List.getElem?_eq_getElem (by omega)] at g2 g4
    rw [cl, List.getElem?_eq_getElem (by omega)] at g3
    change DataW.trod enc Tryz.prog W base spare held k 9 [v0] = some _ at g0
    change DataW.trod enc Tryz.prog W base spare held k 4 [v1] = some _ at g1
    change DataW.trod enc Tryz.prog W base spare held k 3 [v2] = some _ at g2
    change DataW.trod enc Tryz.prog W base spare held k 33 [v3] = some _ at g3
    change DataW.trod enc Tryz.prog W base spare held k 3 [v4] = some _ at g4
    obtain ⟨p, e0, _, w0⟩ := DataW.trod_string Tryz.underlying9 g0
    obtain ⟨d, e1, _⟩ := DataW.trod_bool Tryz.underlying4 g1
    obtain ⟨q, e2, _, _⟩ := DataW.trod_int Tryz.underlying3 g2
    obtain ⟨s, bs, e3, hB, hW⟩ := open_blks g3
    obtain ⟨wr, e4, _, _⟩ := DataW.trod_int Tryz.underlying3 g4
    simp at e0 e1 e2 e4
    subst e0 e1 e2 e3 e4; refine ⟨(⟨p, d, q, bs, wr⟩, s), rfl, ⟨w0, hB⟩, fun hw => hW fun r hr => hw r ?_⟩
    have hD : y.1 = .agg (xs.map (·.1)) := congrArg Prod.fst hxy
    rw [hD]
    unfold DataW.weights; rw [Tryz.underlying35]
    refine DataW.weights_mem_each (j := 3) (t := 33) (d := (xs[3]'(by omega)).1) rfl ?_ _ hr
    rw [List.getElem?_map, List.getElem?_eq_getElem (by omega)]; rfl
theorem open_nodes {a : Option Addr} {len cap : Nat} {d : DataW H} {ps : List MemPlace} (h : DataW.Trod enc Tryz.prog W base spare held 24 (.slice a len cap) d ps) : ∃ (b off : Nat) (qs : List NR), len = (qs.map (·.1)).length ∧ Nds W a b off qs ∧ ((∀ q ∈ d.weights Tryz.prog 24, q ≤ reachBytes) → (∀ x ∈ qs, x.2.n * 24 ≤ reachBytes) ∧ len * 64 ≤ reachBytes) := by
  have c5 : Tryz.prog.cellsOf 35 = 5 := by kernel_rfl
  have hb64 : Tryz.prog.bytesOf 35 = 64 := by kernel_rfl
  obtain ⟨fuel, hf⟩ := h
  rcases Go.Deep.open_slice Tryz.underlying24 hf with ⟨hcs, _⟩ | ⟨x, l, c, m, k, D, Pl, hcs, hb, hl, hm, hmm, hd, hx⟩
  · simp [Value.cells] at hcs
    obtain ⟨rfl, rfl, rfl⟩ := hcs
    exact ⟨0, 0, [], rfl, ⟨fun h => absurd h (by simp), by simp, fun j hj => absurd hj (by simp), fun x hx => (by cases hx)⟩, fun _ => ⟨fun x hx => (by cases hx), Nat.zero_le _⟩⟩
  · simp [Value.cells] at hcs
    obtain ⟨rfl, rfl, rfl⟩ := hcs
    have hlm : len ≤ m := by rw [hmm]; split <;> omega
    rw [c5] at hx
    obtain ⟨b, off, spot⟩ := x
    have each : ∀ j, j < m → ∃ x : NR, (∀ i v, (ndC x)[i]? = some v → W.cell? (((⟨b, off, spot⟩ : Addr).add (j * 5)).add i) = some v) ∧ NdOk W x ∧ ((∀ q ∈ (D j).weights Tryz.prog 35, q ≤ reachBytes) → x.2.n * 24 ≤ reachBytes) := fun j hj => by
      obtain ⟨cs', h1, h2⟩ := hx j hj
      obtain ⟨_, hlen, hcell⟩ := World.cells?_some h1
      obtain ⟨x, rfl, k1, k2⟩ := open_nd h2
      refine ⟨x, fun i v hv => ?_, k1, k2⟩
      have hi : i < 5 := by have := (List.getElem?_eq_some_iff.1 hv).1; rwa [wideX.len] at this
      rw [hcell i hi]; exact hv
    obtain ⟨q, hq⟩ := Go.Deep.choose_lt each
    have hspot : 0 < len → spot = none := fun hp => by
      have h0 := (hq 0 (by omega)).1 0 _ rfl
      have := World.cell?_spot h0
      simpa [Addr.add] using this
    refine ⟨b, off, (List.range len).map q, by simp, ⟨fun hp => ?_, by simp; omega, fun j hj i v hv => ?_, fun x hx => ?_⟩, fun hw => ⟨fun x hx => ?_, ?_⟩⟩
    · rw [hspot (by simpa using hp)]
    · have hj' : j < len := by simpa using hj
      have e1 : ((List.range len).map q)[j] = q j := by simp
      rw [e1] at hv
      have h0 := (hq j (by omega)).1 i v hv
      rw [hspot (by omega), Addr.add_lit, Addr.add_lit] at h0
      exact h0
    · obtain ⟨j, hj, rfl⟩ := List.mem_map.1 hx
      exact (hq j (by have := List.mem_range.1 hj; omega)).2.1
    · obtain ⟨j, hj, rfl⟩ := List.mem_map.1 hx
      have hj' := List.mem_range.1 hj
      refine (hq j (by omega)).2.2 fun r hr => hw r ?_
      have hd' : d = _ := congrArg Prod.fst hd
      rw [hd']
      show _ ∈ DataW.weights Tryz.prog 24 (.slice _ _)
      unfold DataW.weights; rw [Tryz.underlying24]
      exact List.mem_cons_of_mem _ (List.mem_append_left _ (weightsAll_mem (d := D j) (List.mem_map.2 ⟨j, hj, rfl⟩) _ hr))
    · have hd' : d = _ := congrArg Prod.fst hd
      have hin : (len + (m - len)) * 64 ∈ d.weights Tryz.prog 24 := by
        rw [hd']
        show _ ∈ DataW.weights Tryz.prog 24 (.slice _ _)
        unfold DataW.weights; rw [Tryz.underlying24]
        simp [hb64]
      have := hw _ hin
      omega
end
end Go.Proofs.YtcnflkjkgomnoaaGreat
