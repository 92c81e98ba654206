/- Logs, a log that came in, opened. -/
import Derived.Test.YtapnjgmihfmapaaChsM
import Derived.Test.YtapnjgmihfmapaaLogEn
namespace Go.Proofs.Ytapnjgmihfmapaa.Chs
open Go.ChangeShapes Go.WideShapes Go.ChangeAt Go.RowKit Go.Proofs.Ytapnjgmihfmapaa Go.Proofs.Ytapnjgmihfmapaa.Lgg
set_option linter.unusedVariables false

/-- Logs that came in; how great they are is told by the reach. -/
structure LsIn (W : World) (a : Option Addr) (xs : List Ls) : Prop where
  row : Lie lsC (fun b => b < W.heap.size) W a xs
  each : ∀ x ∈ xs, Lie enC (fun b => b < W.heap.size) W x.a x.es
  eps : ∀ x ∈ xs, In64 x.ep
  room : ∀ x ∈ xs, x.es.length ≤ x.c

theorem reachN : reachBytes ≤ 140737488355328 := by unfold reachBytes; omega
theorem LsIn.into {W : World} {a : Option Addr} {xs : List Ls} (h : LsIn W a xs) (hz : ∀ x ∈ xs, x.es.length * 24 ≤ reachBytes) : LsAt (fun b => b < W.heap.size) (fun b => b < W.heap.size) W a xs := ⟨h.row, h.each, h.eps, fun x hx => ⟨h.room x hx, Nat.le_trans (hz x hx) reachN⟩⟩

section
variable {H : Type} {enc : TypeId × Value → H} {W : World} {base : Nat} {spare : Nat → Bool} {held : Bool}

theorem slice_room {T E : TypeId} (hu : Try.prog.underlying T = some (.slice E)) {n : Nat} {a : Option Addr} {m c : Nat} {y : DataW H × List MemPlace} (h : DataW.trod enc Try.prog W base spare held n T [.slice a m c] = some y) : m ≤ c := by
  rcases Go.Deep.open_slice hu h with ⟨hcs, _⟩ | ⟨x, len, cap, m', j0, D, Pl, hcs, hb, hl, hm, hmm, hd, hx⟩
  · simp at hcs; omega
  · simp at hcs; omega

set_option maxRecDepth 100000 in
theorem open_lsr {n : Nat} {cs : List Value} {y : DataW H × List MemPlace} (h : DataW.trod enc Try.prog W base spare held n 31 cs = some y) : ∃ x : Ls, cs = lsC x ∧ (Lie enC (fun b => b < W.heap.size) W x.a x.es ∧ In64 x.ep ∧ x.es.length ≤ x.c) ∧ ((∀ q ∈ y.1.weights Try.prog 31, q ≤ reachBytes) → x.es.length * 24 ≤ reachBytes) := by
  have c2 : Try.prog.cellsOf 31 = 2 := by kernel_rfl
  have ci : Try.prog.cellsOf 3 = 1 := by kernel_rfl
  have cl : Try.prog.cellsOf 24 = 1 := by kernel_rfl
  obtain ⟨xs, k, hk, hxy, hl, hxl, hfld⟩ := DataW.trod_struct Try.underlying31 h
  rw [c2] at hl
  have hx2 : xs.length = 2 := hxl
  match cs, hl with
  | [v0, v1], _ =>
    have g0 : DataW.trod enc Try.prog W base spare held k 3 (([v0, v1].drop 0).take (Try.prog.cellsOf 3)) = xs[0]? := hfld 0 _ rfl
    have g1 : DataW.trod enc Try.prog W base spare held k 24 (([v0, v1].drop 1).take (Try.prog.cellsOf 24)) = xs[1]? := hfld 1 _ rfl
    rw [ci, List.getElem?_eq_getElem (by omega)] at g0
    rw [cl, List.getElem?_eq_getElem (by omega)] at g1
    change DataW.trod enc Try.prog W base spare held k 3 [v0] = some _ at g0
    change DataW.trod enc Try.prog W base spare held k 24 [v1] = some _ at g1
    obtain ⟨i0, e0, _, w0⟩ := DataW.trod_int Try.underlying3 g0
    obtain ⟨a, m, c, es, e1, hm, hL, hQ, hW⟩ := open_rows (Q := fun x : En => x.d.size ≤ maxLen) (R := fun _ => True) wideN (by omega) Try.underlying24 (by kernel_rfl) (B := 24) (by kernel_rfl) (fun n cs y h => by obtain ⟨x, e, k⟩ := open_en h; exact ⟨x, e, k, fun _ => trivial⟩) g1
    simp at e0
    subst e0 e1 hm
    have hroom := slice_room Try.underlying24 g1
    refine ⟨⟨i0, a, c, es⟩, rfl, ⟨hL, bounds_i64 w0, hroom⟩, fun hw => (hW fun r hr => hw r ?_).1⟩
    have hD : y.1 = .agg (xs.map (·.1)) := congrArg Prod.fst hxy
    rw [hD]
    unfold DataW.weights
    rw [Try.underlying31]
    refine DataW.weights_mem_each (j := 1) (t := 24) (d := (xs[1]'(by omega)).1) rfl ?_ _ hr
    rw [List.getElem?_map, List.getElem?_eq_getElem (by omega)]; rfl

set_option maxRecDepth 100000 in
theorem open_logs {a : Option Addr} {len cap : Nat} {d : DataW H} {ps : List MemPlace} (h : DataW.Trod enc Try.prog W base spare held 22 (.slice a len cap) d ps) : ∃ us : List Ls, us.length = len ∧ (LsIn W a us ∧ len ≤ cap) ∧ ((∀ q ∈ d.weights Try.prog 22, q ≤ reachBytes) → ∀ x ∈ us, x.es.length * 24 ≤ reachBytes) := by
  obtain ⟨fuel, hf⟩ := h
  have hroom := slice_room Try.underlying22 hf
  obtain ⟨a', m, c, us, e, hm, hL, hQ, hW⟩ := open_rows (Q := fun x : Ls => Lie enC (fun b => b < W.heap.size) W x.a x.es ∧ In64 x.ep ∧ x.es.length ≤ x.c) (R := fun x : Ls => x.es.length * 24 ≤ reachBytes) wideL (by omega) Try.underlying22 (by kernel_rfl) (B := Try.prog.bytesOf 31) rfl (fun n cs y h => open_lsr h) hf
  simp only [Value.slice.injEq] at e
  obtain ⟨rfl, rfl, rfl⟩ := e
  exact ⟨us, hm, ⟨⟨hL, fun x hx => (hQ x hx).1, fun x hx => (hQ x hx).2.1, fun x hx => (hQ x hx).2.2⟩, hroom⟩, fun hw => (hW hw).2⟩

/-- Entries that came in, and how much room they have. -/
theorem open_ens2 {a : Option Addr} {len cap : Nat} {d : DataW H} {ps : List MemPlace} (h : DataW.Trod enc Try.prog W base spare held 24 (.slice a len cap) d ps) : ∃ es : List En, es.length = len ∧ (LgIn W a es ∧ len ≤ cap) := by
  obtain ⟨es, h1, h2⟩ := Jrn.open_ens h
  obtain ⟨fuel, hf⟩ := h
  exact ⟨es, h1, h2, slice_room Try.underlying24 hf⟩

/-- A log that came in. -/
structure LgIn2 (W : World) (x : Ls) : Prop where
  each : Lie enC (fun b => b < W.heap.size) W x.a x.es
  eps : In64 x.ep
  room : x.es.length ≤ x.c

set_option maxRecDepth 100000 in
theorem open_log2 {v : Value} {d : DataW H} {ps : List MemPlace} {r : Reach} {b0 : Nat} (hval : Value.okWide Try.prog W r b0 31 v) (h : DataW.Trod enc Try.prog W base spare held 31 v d ps) : ∃ x : Ls, v = .agg #[.int .i64 x.ep, .slice x.a x.es.length x.c] ∧ LgIn2 W x ∧ ((∀ q ∈ d.weights Try.prog 31, q ≤ reachBytes) → x.es.length * 24 ≤ reachBytes) := by
  obtain ⟨cs, rfl, hsz⟩ := okWide_struct Try.underlying31 hval
  obtain ⟨fuel, hf⟩ := h
  have c2 : Try.prog.cellsOf 31 = 2 := by kernel_rfl
  rw [c2] at hsz
  match cs, hsz with
  | ⟨[v0, v1]⟩, _ =>
    have hf2 : DataW.trod enc Try.prog W base spare held fuel 31 [v0, v1] = some (d, ps) := hf
    obtain ⟨x, e, k, kw⟩ := open_lsr hf2
    simp [lsC] at e
    obtain ⟨rfl, rfl⟩ := e
    exact ⟨x, rfl, ⟨k.1, k.2.1, k.2.2⟩, kw⟩
end

end Go.Proofs.Ytapnjgmihfmapaa.Chs
