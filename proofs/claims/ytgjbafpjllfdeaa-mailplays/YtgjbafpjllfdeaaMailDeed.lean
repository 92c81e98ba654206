/- A list of deeds that came in, opened. -/
import Derived.Test.YtgjbafpjllfdeaaOpenRecs
namespace Go.Proofs.Ytgjbafpjllfdeaa
open Go.ChangeShapes Go.WideShapes Go.ChangeAt Go.RowKit

/-- A deed: kind, a message, a number. -/
structure DeedM where
  k : Int
  t : Int
  d : ByteArray
  n : Int

structure DeedOk (u : DeedM) : Prop where
  k : -9223372036854775808 ≤ u.k ∧ u.k ≤ 9223372036854775807
  d : u.d.size ≤ maxLen
  n : -9223372036854775808 ≤ u.n ∧ u.n ≤ 9223372036854775807

structure Deeds (w : World) (a : Option Addr) (b off : Nat) (us : List DeedM) : Prop where
  addr : 0 < us.length → a = some ⟨b, off, none⟩
  len : us.length ≤ maxLen
  cell : ∀ j (hj : j < us.length), w.cell? ⟨b, off + j * 4 + 0, none⟩ = some (.int .i64 us[j].k) ∧ w.cell? ⟨b, off + j * 4 + 1, none⟩ = some (.int .i64 us[j].t) ∧ w.cell? ⟨b, off + j * 4 + 2, none⟩ = some (.string us[j].d) ∧ w.cell? ⟨b, off + j * 4 + 3, none⟩ = some (.int .i64 us[j].n)
  ok : ∀ j (hj : j < us.length), DeedOk us[j]

instance : Inhabited DeedM := ⟨⟨0, 0, ⟨#[]⟩, 0⟩⟩

set_option maxRecDepth 100000 in
theorem open_mails {H : Type} {enc : TypeId × Value → H} {W : World} {base : Nat} {spare : Nat → Bool} {held : Bool} {a : Option Addr} {len cap : Nat} {d : DataW H} {ps : List MemPlace}
    (h : DataW.Trod enc Try.prog W base spare held 22 (.slice a len cap) d ps) : ∃ (b off : Nat) (us : List DeedM), len = us.length ∧ Deeds W a b off us := by
  have hc4 : Try.prog.cellsOf 34 = 4 := by kernel_rfl
  obtain ⟨b, off, vs, h1, h2, h3, h4⟩ := open_recs Try.underlying22 Try.underlying34 (by rw [hc4]; omega) h
  rw [hc4] at h4
  have each : ∀ j, j < vs.length → ∃ u : DeedM, DeedOk u ∧ W.cell? ⟨b, off + j * 4 + 0, none⟩ = some (.int .i64 u.k) ∧ W.cell? ⟨b, off + j * 4 + 1, none⟩ = some (.int .i64 u.t) ∧ W.cell? ⟨b, off + j * 4 + 2, none⟩ = some (.string u.d) ∧ W.cell? ⟨b, off + j * 4 + 3, none⟩ = some (.int .i64 u.n) := by
    intro j hj
    obtain ⟨hl, hcell, n, hfld⟩ := h4 j hj
    generalize vs[j] = v at *
    match v, hl with
    | [v0, v1, v2, v3], _ =>
      have c0 := hcell 0 (by simp)
      have c1 := hcell 1 (by simp)
      have c2 := hcell 2 (by simp)
      have c3 := hcell 3 (by simp)
      simp only [List.getElem_cons_zero, List.getElem_cons_succ] at c0 c1 c2 c3
      have ci : Try.prog.cellsOf 3 = 1 := by kernel_rfl
      have cs : Try.prog.cellsOf 9 = 1 := by kernel_rfl
      have cm : Try.prog.cellsOf 32 = 2 := by kernel_rfl
      obtain ⟨y0, g0⟩ : ∃ y, DataW.trod enc Try.prog W base spare held n 3 (([v0, v1, v2, v3].drop 0).take (Try.prog.cellsOf 3)) = some y := hfld 0 _ rfl
      rw [ci] at g0
      change DataW.trod enc Try.prog W base spare held n 3 [v0] = some y0 at g0
      obtain ⟨y1, g1⟩ : ∃ y, DataW.trod enc Try.prog W base spare held n 32 (([v0, v1, v2, v3].drop 1).take (Try.prog.cellsOf 32)) = some y := hfld 1 _ rfl
      rw [cm] at g1
      change DataW.trod enc Try.prog W base spare held n 32 [v1, v2] = some y1 at g1
      obtain ⟨y3, g3⟩ : ∃ y, DataW.trod enc Try.prog W base spare held n 3 (([v0, v1, v2, v3].drop 3).take (Try.prog.cellsOf 3)) = some y := hfld 2 _ rfl
      rw [ci] at g3
      change DataW.trod enc Try.prog W base spare held n 3 [v3] = some y3 at g3
      obtain ⟨xs, k', hk, hxy, _, hxl, hfld1⟩ := DataW.trod_struct Try.underlying32 g1
      have h0 : 0 < xs.length := by rw [hxl]; decide
      have h1' : 1 < xs.length := by rw [hxl]; decide
      have q0 : DataW.trod enc Try.prog W base spare held k' 3 (([v1, v2].drop 0).take (Try.prog.cellsOf 3)) = xs[0]? := hfld1 0 _ rfl
      rw [ci, List.getElem?_eq_getElem h0] at q0
      change DataW.trod enc Try.prog W base spare held k' 3 [v1] = some _ at q0
      have q1 : DataW.trod enc Try.prog W base spare held k' 9 (([v1, v2].drop 1).take (Try.prog.cellsOf 9)) = xs[1]? := hfld1 1 _ rfl
      rw [cs, List.getElem?_eq_getElem h1'] at q1
      change DataW.trod enc Try.prog W base spare held k' 9 [v2] = some _ at q1
      obtain ⟨k, e0, _, w0⟩ := DataW.trod_int Try.underlying3 g0
      obtain ⟨t, e1, _, w1⟩ := DataW.trod_int Try.underlying3 q0
      obtain ⟨dd, e2, _, w2⟩ := DataW.trod_string Try.underlying9 q1
      obtain ⟨nn, e3, _, w3⟩ := DataW.trod_int Try.underlying3 g3
      simp at e0 e1 e2 e3
      subst e0 e1 e2 e3
      exact ⟨⟨k, t, dd, nn⟩, ⟨bounds_i64 w0, w2, bounds_i64 w3⟩, c0, c1, c2, c3⟩
  obtain ⟨q, hq⟩ := Go.Deep.choose_lt each
  have hlen : ((List.range vs.length).map q).length = vs.length := by simp
  have hat : ∀ j (hj : j < ((List.range vs.length).map q).length), ((List.range vs.length).map q)[j] = q j := fun j hj => by simp
  refine ⟨b, off, (List.range vs.length).map q, by rw [hlen]; exact h1, ⟨fun hp => h3 (by rw [h1]; rw [hlen] at hp; exact hp), by rw [hlen, ← h1]; exact h2, fun j hj => ?_, fun j hj => ?_⟩⟩
  · rw [hat j hj]
    exact (hq j (by rw [hlen] at hj; exact hj)).2
  · rw [hat j hj]
    exact (hq j (by rw [hlen] at hj; exact hj)).1

end Go.Proofs.Ytgjbafpjllfdeaa
