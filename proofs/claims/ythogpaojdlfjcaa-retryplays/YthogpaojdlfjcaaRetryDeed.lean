/- The deeds of RetryPlays that came in, opened. -/
import Derived.Test.YthogpaojdlfjcaaRetryOpen
import Derived.Test.YthogpaojdlfjcaaRetryR
namespace Go.Proofs.Ythogpaojdlfjcaa.Rty
open Go.ChangeShapes Go.WideShapes Go.ChangeAt Go.RowKit Go.Proofs.Ythogpaojdlfjcaa Go.Proofs.Ythogpaojdlfjcaa.Edi

/-- A deed: kind, client, call, edit, answer. -/
structure Dd where
  kd : Int
  cl : Int
  ca : Int
  ed : Ed
  a : Option Addr
  m : Nat
  q : Nat
  x : Ans
  s : Sls
instance : Inhabited Dd := ⟨⟨0, 0, 0, zeroE, none, 0, 0, zeroA, ⟨none, 0, none, 0⟩⟩⟩
def ddC (d : Dd) : List Value := [.int .i64 d.kd, .int .i64 d.cl, .int .i64 d.ca, .int .i64 d.ed.k, .string d.ed.p, .string d.ed.t, .int .i64 d.ed.c, .int .i64 d.ed.l, .int .i64 d.ed.n, .slice d.a d.m d.q, .int .i64 d.x.err, .int .i64 d.x.bk.i, .int .i64 d.x.bk.g, .int .i64 d.x.bk.l, .slice d.s.a1 d.x.names.length d.s.c1, .string d.x.path, .bool d.x.dir, .int .i64 d.x.quota, .slice d.s.a2 d.x.blocks.length d.s.c2, .int .i64 d.x.writer, .int .i64 d.x.n]
theorem wideD : Wide ddC 21 := ⟨fun _ => rfl, fun x u hu => by simp [ddC] at hu; rcases hu with rfl | rfl | rfl | rfl | rfl | rfl | rfl | rfl | rfl | rfl | rfl | rfl | rfl | rfl | rfl | rfl | rfl | rfl | rfl | rfl | rfl <;> rfl⟩

structure DdQ (W : World) (d : Dd) : Prop where
  k1 : In64 d.kd
  k2 : In64 d.cl
  k3 : In64 d.ca
  nm : Nm W d.a d.m d.ed.ls
  e1 : In64 d.ed.k
  e2 : In64 d.ed.c
  e3 : In64 d.ed.l
  e4 : In64 d.ed.n
  an : AnGot W d.x d.s

section
variable {H : Type} {enc : TypeId × Value → H} {W : World} {base : Nat} {spare : Nat → Bool} {held : Bool}

set_option maxRecDepth 100000 in
theorem open_dd {n : Nat} {cs : List Value} {y : DataW H × List MemPlace} (h : DataW.trod enc Try.prog W base spare held n 43 cs = some y) : ∃ d : Dd, cs = ddC d ∧ DdQ W d ∧ ((∀ q ∈ y.1.weights Try.prog 43, q ≤ reachBytes) → d.x.names.length * 16 ≤ reachBytes ∧ d.x.blocks.length * 24 ≤ reachBytes) := by
  have c21 : Try.prog.cellsOf 43 = 21 := by kernel_rfl
  have ci : Try.prog.cellsOf 3 = 1 := by kernel_rfl
  have ce : Try.prog.cellsOf 32 = 7 := by kernel_rfl
  have ca : Try.prog.cellsOf 41 = 11 := by kernel_rfl
  obtain ⟨xs, k, hk, hxy, hl, hxl, hfld⟩ := DataW.trod_struct Try.underlying43 h
  rw [c21] at hl
  have hx5 : xs.length = 5 := hxl
  match cs, hl with
  | [v0, v1, v2, v3, v4, v5, v6, v7, v8, v9, v10, v11, v12, v13, v14, v15, v16, v17, v18, v19, v20], _ =>
    have g0 : DataW.trod enc Try.prog W base spare held k 3 (([v0, v1, v2, v3, v4, v5, v6, v7, v8, v9, v10, v11, v12, v13, v14, v15, v16, v17, v18, v19, v20].drop 0).take (Try.prog.cellsOf 3)) = xs[0]? := hfld 0 _ rfl
    have g1 : DataW.trod enc Try.prog W base spare held k 3 (([v0, v1, v2, v3, v4, v5, v6, v7, v8, v9, v10, v11, v12, v13, v14, v15, v16, v17, v18, v19, v20].drop 1).take (Try.prog.cellsOf 3)) = xs[1]? := hfld 1 _ rfl
    have g2 : DataW.trod enc Try.prog W base spare held k 3 (([v0, v1, v2, v3, v4, v5, v6, v7, v8, v9, v10, v11, v12, v13, v14, v15, v16, v17, v18, v19, v20].drop 2).take (Try.prog.cellsOf 3)) = xs[2]? := hfld 2 _ rfl
    have g3 : DataW.trod enc Try.prog W base spare held k 32 (([v0, v1, v2, v3, v4, v5, v6, v7, v8, v9, v10, v11, v12, v13, v14, v15, v16, v17, v18, v19, v20].drop 3).take (Try.prog.cellsOf 32)) = xs[3]? := hfld 3 _ rfl
    have g4 : DataW.trod enc Try.prog W base spare held k 41 (([v0, v1, v2, v3, v4, v5, v6, v7, v8, v9, v10, v11, v12, v13, v14, v15, v16, v17, v18, v19, v20].drop 10).take (Try.prog.cellsOf 41)) = xs[4]? := hfld 4 _ rfl
    rw [ci, List.getElem?_eq_getElem (by omega)] at g0 g1 g2
    rw [ce, List.getElem?_eq_getElem (by omega)] at g3
    rw [ca, List.getElem?_eq_getElem (by omega)] at g4
    change DataW.trod enc Try.prog W base spare held k 3 [v0] = some _ at g0
    change DataW.trod enc Try.prog W base spare held k 3 [v1] = some _ at g1
    change DataW.trod enc Try.prog W base spare held k 3 [v2] = some _ at g2
    change DataW.trod enc Try.prog W base spare held k 32 [v3, v4, v5, v6, v7, v8, v9] = some _ at g3
    change DataW.trod enc Try.prog W base spare held k 41 [v10, v11, v12, v13, v14, v15, v16, v17, v18, v19, v20] = some _ at g4
    obtain ⟨i0, e0, _, w0⟩ := DataW.trod_int Try.underlying3 g0
    obtain ⟨i1, e1, _, w1⟩ := DataW.trod_int Try.underlying3 g1
    obtain ⟨i2, e2, _, w2⟩ := DataW.trod_int Try.underlying3 g2
    obtain ⟨e, a, m, q, e3, hN, f1, f2, f3, f4⟩ := open_ed2 g3
    obtain ⟨x, s, e4, hA1, hA2, hW⟩ := open_an g4
    simp at e0 e1 e2
    simp [anC] at e3 e4
    obtain ⟨r3, r4, r5, r6, r7, r8, r9⟩ := e3
    obtain ⟨s0, s1, s2, s3, s4, s5, s6, s7, s8, s9, s10⟩ := e4
    subst e0 e1 e2 r3 r4 r5 r6 r7 r8 r9 s0 s1 s2 s3 s4 s5 s6 s7 s8 s9 s10
    refine ⟨⟨i0, i1, i2, e, a, m, q, x, s⟩, rfl, ⟨wf_in64 w0, wf_in64 w1, wf_in64 w2, hN, f1, f2, f3, f4, ⟨hA1, hA2⟩⟩, fun hw => hW fun r hr => hw r ?_⟩
    have hD : y.1 = .agg (xs.map (·.1)) := congrArg Prod.fst hxy
    rw [hD]
    unfold DataW.weights
    rw [Try.underlying43]
    refine DataW.weights_mem_each (j := 4) (t := 41) (d := (xs[4]'(by omega)).1) rfl ?_ _ hr
    rw [List.getElem?_map, List.getElem?_eq_getElem (by omega)]; rfl

/-- Deeds that came in. -/
structure Dds (W : World) (a : Option Addr) (us : List Dd) : Prop where
  lie : Lie ddC (fun b => b < W.heap.size) W a us
  each : ∀ d ∈ us, DdQ W d

set_option maxRecDepth 100000 in
theorem open_rdeeds {a : Option Addr} {len cap : Nat} {d : DataW H} {ps : List MemPlace} (h : DataW.Trod enc Try.prog W base spare held 22 (.slice a len cap) d ps) : ∃ us : List Dd, us.length = len ∧ Dds W a us ∧ ((∀ q ∈ d.weights Try.prog 22, q ≤ reachBytes) → ∀ u ∈ us, u.x.names.length * 16 ≤ reachBytes ∧ u.x.blocks.length * 24 ≤ reachBytes) := by
  obtain ⟨fuel, hf⟩ := h
  obtain ⟨a', m, c, us, e, hm, hL, hQ, hW⟩ := open_rows (Q := DdQ W) (R := fun d : Dd => d.x.names.length * 16 ≤ reachBytes ∧ d.x.blocks.length * 24 ≤ reachBytes) wideD (by omega) Try.underlying22 (by kernel_rfl) (B := Try.prog.bytesOf 43) rfl (fun n cs y h => open_dd h) hf
  simp only [Value.slice.injEq] at e
  obtain ⟨rfl, rfl, rfl⟩ := e
  exact ⟨us, hm, ⟨hL, hQ⟩, fun hw => (hW hw).2⟩

end

end Go.Proofs.Ythogpaojdlfjcaa.Rty
