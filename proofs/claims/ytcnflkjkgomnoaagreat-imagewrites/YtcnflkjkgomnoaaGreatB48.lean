/- Part 48 of the proof: LeaseOpen. -/
import Derived.Test.YtcnflkjkgomnoaaGreatB07
import Derived.Test.YtcnflkjkgomnoaaGreatB29
import Derived.Deep.Slices
import Derived.SizedLaws
set_option maxRecDepth 100000
set_option maxHeartbeats 8000000
namespace Go.Proofs.YtcnflkjkgomnoaaGreat.Lea
open Go.ChangeShapes Go.WideShapes Go.ChangeAt Go.RowKit Go.Proofs.YtcnflkjkgomnoaaGreat
section
variable {H : Type} {enc : TypeId × Value → H} {W : World} {base : Nat} {spare : Nat → Bool} {held : Bool}
theorem open_lease {n : Nat} {cs : List Value} {y : DataW H × List MemPlace} (h : DataW.trod enc Tryz.prog W base spare held n 69 cs = some y) : ∃ b : Ls, cs = lsC b := by
  have c2 : Tryz.prog.cellsOf 69 = 2 := by kernel_rfl
  have ci : Tryz.prog.cellsOf 3 = 1 := by kernel_rfl
  obtain ⟨xs, k, hk, hxy, hl, hxl, hfld⟩ := DataW.trod_struct Tryz.underlying69 h
  rw [c2] at hl
  have hx2 : xs.length = 2 := hxl
  match cs, hl with
  | [v0, v1], _ =>
    have g0 : DataW.trod enc Tryz.prog W base spare held k 3 (([v0, v1].drop 0).take (Tryz.prog.cellsOf 3)) = xs[0]? := hfld 0 _ rfl
    have g1 : DataW.trod enc Tryz.prog W base spare held k 3 (([v0, v1].drop 1).take (Tryz.prog.cellsOf 3)) = xs[1]? := hfld 1 _ rfl
    rw [ci, List.getElem?_eq_getElem (by omega)] at g0 g1
    change DataW.trod enc Tryz.prog W base spare held k 3 [v0] = some _ at g0
    change DataW.trod enc Tryz.prog W base spare held k 3 [v1] = some _ at g1
    obtain ⟨i0, e0, _, _⟩ := DataW.trod_int Tryz.underlying3 g0
    obtain ⟨i1, e1, _, _⟩ := DataW.trod_int Tryz.underlying3 g1
    simp at e0 e1
    subst e0 e1; exact ⟨⟨i0, i1⟩, rfl⟩
theorem open_leases {a : Option Addr} {len cap : Nat} {d : DataW H} {ps : List MemPlace} (h : DataW.Trod enc Tryz.prog W base spare held 25 (.slice a len cap) d ps) : ∃ xs : LS, LL W a len cap xs ∧ ((∀ q ∈ d.weights Tryz.prog 25, q ≤ reachBytes) → len * 16 ≤ reachBytes) := by
  have c2 : Tryz.prog.cellsOf 69 = 2 := by kernel_rfl
  have hb16 : Tryz.prog.bytesOf 69 = 16 := by kernel_rfl
  obtain ⟨fuel, hf⟩ := h
  rcases Go.Deep.open_slice Tryz.underlying25 hf with ⟨hcs, _⟩ | ⟨x, l, c, m, k, D, Pl, hcs, hb, hl, hm, hmm, hd, hx⟩
  · simp [Value.cells] at hcs
    obtain ⟨rfl, rfl, rfl⟩ := hcs
    exact ⟨[], LL.zero W none 0 (fun _ => rfl) (Nat.zero_le _), fun _ => Nat.zero_le _⟩
  · simp [Value.cells] at hcs
    obtain ⟨rfl, rfl, rfl⟩ := hcs
    have hlm : len ≤ m := by rw [hmm]; split <;> omega
    rw [c2] at hx
    obtain ⟨b, off, spot⟩ := x
    have each : ∀ j, j < m → ∃ bk : Ls, ∀ i v, (lsC bk)[i]? = some v → W.cell? (((⟨b, off, spot⟩ : Addr).add (j * 2)).add i) = some v := fun j hj => by
      obtain ⟨cs', h1, h2⟩ := hx j hj
      obtain ⟨_, hlen, hcell⟩ := World.cells?_some h1
      obtain ⟨bk, rfl⟩ := open_lease h2
      refine ⟨bk, fun i v hv => ?_⟩
      have hi : i < 2 := by have := (List.getElem?_eq_some_iff.1 hv).1; rwa [wideL.len] at this
      rw [hcell i hi]; exact hv
    obtain ⟨q, hq⟩ := Go.Deep.choose_lt each
    have hspot : 0 < len → spot = none := fun hp => by
      have h0 := hq 0 (by omega) 0 _ rfl
      have := World.cell?_spot h0
      simpa [Addr.add] using this
    refine ⟨(List.range len).map q, ⟨by simp, fun e => (by cases e), hl, hm, fun hp => ?_⟩, fun hw => ?_⟩
    · have hsp := hspot hp
      subst hsp; refine ⟨b, off, rfl, fun j hj i v hv => ?_⟩
      have hj' : j < len := by simpa using hj
      have e1 : ((List.range len).map q)[j] = q j := by simp
      rw [e1] at hv
      have h0 := hq j (by omega) i v hv
      rw [Addr.add_lit, Addr.add_lit] at h0
      exact h0
    · have hd' : d = _ := congrArg Prod.fst hd
      have hin : (len + (m - len)) * 16 ∈ d.weights Tryz.prog 25 := by
        rw [hd']
        show _ ∈ DataW.weights Tryz.prog 25 (.slice _ _)
        unfold DataW.weights; rw [Tryz.underlying25]
        simp [hb16]
      have := hw _ hin
      omega
end
end Go.Proofs.YtcnflkjkgomnoaaGreat.Lea
