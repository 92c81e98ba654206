/- A list of deeds that came in, opened. -/
import Derived.Test.YtlgfhmedenlbcaaOpenRecs
namespace Go.Proofs.Ytlgfhmedenlbcaa
open Go.ChangeShapes Go.WideShapes Go.ChangeAt Go.RowKit

/-- A deed: kind, names, bytes, a number, what lasts. -/
structure DeedV where
  k : Int
  f : ByteArray
  t : ByteArray
  d : ByteArray
  n : Int
  ka : Option Addr
  kb : Nat
  ko : Nat
  kc : Nat
  ks : List Int

structure DeedOk (w : World) (u : DeedV) : Prop where
  k : -9223372036854775808 ≤ u.k ∧ u.k ≤ 9223372036854775807
  f : u.f.size ≤ maxLen
  t : u.t.size ≤ maxLen
  d : u.d.size ≤ maxLen
  n : -9223372036854775808 ≤ u.n ∧ u.n ≤ 9223372036854775807
  ks : Ints w .i64 u.ka u.kb u.ko u.ks
  kl : u.ks.length ≤ maxLen
  kz : ∀ k ∈ u.ks, -9223372036854775808 ≤ k ∧ k ≤ 9223372036854775807

structure Deeds (w : World) (a : Option Addr) (b off : Nat) (us : List DeedV) : Prop where
  addr : 0 < us.length → a = some ⟨b, off, none⟩
  len : us.length ≤ maxLen
  cell : ∀ j (hj : j < us.length), w.cell? ⟨b, off + j * 6 + 0, none⟩ = some (.int .i64 us[j].k) ∧ w.cell? ⟨b, off + j * 6 + 1, none⟩ = some (.string us[j].f) ∧ w.cell? ⟨b, off + j * 6 + 2, none⟩ = some (.string us[j].t) ∧
    w.cell? ⟨b, off + j * 6 + 3, none⟩ = some (.string us[j].d) ∧ w.cell? ⟨b, off + j * 6 + 4, none⟩ = some (.int .i64 us[j].n) ∧ w.cell? ⟨b, off + j * 6 + 5, none⟩ = some (.slice us[j].ka us[j].ks.length us[j].kc)
  ok : ∀ j (hj : j < us.length), DeedOk w us[j]

instance : Inhabited DeedV := ⟨⟨0, ⟨#[]⟩, ⟨#[]⟩, ⟨#[]⟩, 0, none, 0, 0, 0, []⟩⟩

set_option maxRecDepth 100000 in
theorem open_deeds {H : Type} {enc : TypeId × Value → H} {W : World} {base : Nat} {spare : Nat → Bool} {held : Bool} {a : Option Addr} {len cap : Nat} {d : DataW H} {ps : List MemPlace}
    (h : DataW.Trod enc Try.prog W base spare held 22 (.slice a len cap) d ps) : ∃ (b off : Nat) (us : List DeedV), len = us.length ∧ Deeds W a b off us := by
  have hc6 : Try.prog.cellsOf 31 = 6 := by kernel_rfl
  obtain ⟨b, off, vs, h1, h2, h3, h4⟩ := open_recs Try.underlying22 Try.underlying31 (by rw [hc6]; omega) h
  rw [hc6] at h4
  have each : ∀ j, j < vs.length → ∃ u : DeedV, DeedOk W u ∧ W.cell? ⟨b, off + j * 6 + 0, none⟩ = some (.int .i64 u.k) ∧ W.cell? ⟨b, off + j * 6 + 1, none⟩ = some (.string u.f) ∧ W.cell? ⟨b, off + j * 6 + 2, none⟩ = some (.string u.t) ∧
      W.cell? ⟨b, off + j * 6 + 3, none⟩ = some (.string u.d) ∧ W.cell? ⟨b, off + j * 6 + 4, none⟩ = some (.int .i64 u.n) ∧ W.cell? ⟨b, off + j * 6 + 5, none⟩ = some (.slice u.ka u.ks.length u.kc) := by
    intro j hj
    obtain ⟨hl, hcell, n, hfld⟩ := h4 j hj
    generalize vs[j] = v at *
    match v, hl with
    | [v0, v1, v2, v3, v4, v5], _ =>
      have c0 := hcell 0 (by simp)
      have c1 := hcell 1 (by simp)
      have c2 := hcell 2 (by simp)
      have c3 := hcell 3 (by simp)
      have c4 := hcell 4 (by simp)
      have c5 := hcell 5 (by simp)
      simp only [List.getElem_cons_zero, List.getElem_cons_succ] at c0 c1 c2 c3 c4 c5
      have ci : Try.prog.cellsOf 3 = 1 := by kernel_rfl
      have cs : Try.prog.cellsOf 9 = 1 := by kernel_rfl
      have cl : Try.prog.cellsOf 29 = 1 := by kernel_rfl
      obtain ⟨y0, g0⟩ : ∃ y, DataW.trod enc Try.prog W base spare held n 3 (([v0, v1, v2, v3, v4, v5].drop 0).take (Try.prog.cellsOf 3)) = some y := hfld 0 _ rfl
      rw [ci] at g0
      change DataW.trod enc Try.prog W base spare held n 3 [v0] = some y0 at g0
      obtain ⟨y1, g1⟩ : ∃ y, DataW.trod enc Try.prog W base spare held n 9 (([v0, v1, v2, v3, v4, v5].drop 1).take (Try.prog.cellsOf 9)) = some y := hfld 1 _ rfl
      rw [cs] at g1
      change DataW.trod enc Try.prog W base spare held n 9 [v1] = some y1 at g1
      obtain ⟨y2, g2⟩ : ∃ y, DataW.trod enc Try.prog W base spare held n 9 (([v0, v1, v2, v3, v4, v5].drop 2).take (Try.prog.cellsOf 9)) = some y := hfld 2 _ rfl
      rw [cs] at g2
      change DataW.trod enc Try.prog W base spare held n 9 [v2] = some y2 at g2
      obtain ⟨y3, g3⟩ : ∃ y, DataW.trod enc Try.prog W base spare held n 9 (([v0, v1, v2, v3, v4, v5].drop 3).take (Try.prog.cellsOf 9)) = some y := hfld 3 _ rfl
      rw [cs] at g3
      change DataW.trod enc Try.prog W base spare held n 9 [v3] = some y3 at g3
      obtain ⟨y4, g4⟩ : ∃ y, DataW.trod enc Try.prog W base spare held n 3 (([v0, v1, v2, v3, v4, v5].drop 4).take (Try.prog.cellsOf 3)) = some y := hfld 4 _ rfl
      rw [ci] at g4
      change DataW.trod enc Try.prog W base spare held n 3 [v4] = some y4 at g4
      obtain ⟨y5, g5⟩ : ∃ y, DataW.trod enc Try.prog W base spare held n 29 (([v0, v1, v2, v3, v4, v5].drop 5).take (Try.prog.cellsOf 29)) = some y := hfld 5 _ rfl
      rw [cl] at g5
      change DataW.trod enc Try.prog W base spare held n 29 [v5] = some y5 at g5
      obtain ⟨k, e0, _, w0⟩ := DataW.trod_int Try.underlying3 g0
      obtain ⟨f, e1, _, w1⟩ := DataW.trod_string Try.underlying9 g1
      obtain ⟨t, e2, _, w2⟩ := DataW.trod_string Try.underlying9 g2
      obtain ⟨dd, e3, _, w3⟩ := DataW.trod_string Try.underlying9 g3
      obtain ⟨nn, e4, _, w4⟩ := DataW.trod_int Try.underlying3 g4
      have hsl : ∃ ka kl kc, v5 = .slice ka kl kc := by
        rcases open_ints Try.underlying29 Try.underlying3 ci g5 with ⟨hcs, _⟩ | ⟨x, l, c, zs, hcs, _⟩
        · exact ⟨none, 0, 0, by simpa using hcs⟩
        · exact ⟨some x, l, c, by simpa using hcs⟩
      obtain ⟨ka, kl, kc, rfl⟩ := hsl
      obtain ⟨kb, ko, ks, rfl, q1, q2, q3⟩ := open_nums (enc := enc) (P := Try.prog) (W := W) (base := base) (spare := spare) (held := held) (t := 29) (a := ka) (len := kl) (cap := kc) (d := y5.1) (ps := y5.2) Try.underlying29 Try.underlying3 ci ⟨n, g5⟩
      simp at e0 e1 e2 e3 e4
      subst e0 e1 e2 e3 e4
      exact ⟨⟨k, f, t, dd, nn, ka, kb, ko, kc, ks⟩, ⟨bounds_i64 w0, w1, w2, w3, bounds_i64 w4, q1, q2, fun z hz => bounds_i64 (q3 z hz)⟩, c0, c1, c2, c3, c4, c5⟩
  obtain ⟨q, hq⟩ := Go.Deep.choose_lt each
  have hlen : ((List.range vs.length).map q).length = vs.length := by simp
  have hat : ∀ j (hj : j < ((List.range vs.length).map q).length), ((List.range vs.length).map q)[j] = q j := fun j hj => by simp
  refine ⟨b, off, (List.range vs.length).map q, by rw [hlen]; exact h1, ⟨fun hp => h3 (by rw [h1]; rw [hlen] at hp; exact hp), by rw [hlen, ← h1]; exact h2, fun j hj => ?_, fun j hj => ?_⟩⟩
  · rw [hat j hj]
    exact (hq j (by rw [hlen] at hj; exact hj)).2
  · rw [hat j hj]
    exact (hq j (by rw [hlen] at hj; exact hj)).1

end Go.Proofs.Ytlgfhmedenlbcaa
