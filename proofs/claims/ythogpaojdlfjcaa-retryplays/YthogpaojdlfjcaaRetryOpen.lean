/- Answers, and rows of whatever elements, that came in, opened. -/
import Derived.Test.YthogpaojdlfjcaaRetryF1
import Derived.Test.YthogpaojdlfjcaaEditOpen
import Derived.Deep.Slices
import Derived.SizedLaws
namespace Go.Proofs.Ythogpaojdlfjcaa.Rty
open Go.ChangeShapes Go.WideShapes Go.ChangeAt Go.RowKit Go.Proofs.Ythogpaojdlfjcaa Go.Proofs.Ythogpaojdlfjcaa.Edi

instance : Inhabited Bk := ⟨⟨0, 0, 0⟩⟩

section
variable {H : Type} {enc : TypeId × Value → H} {W : World} {base : Nat} {spare : Nat → Bool} {held : Bool}

theorem weightsAll_mem {P : Program} {e : TypeId} : ∀ {ds : List (DataW H)} {d : DataW H}, d ∈ ds → ∀ n ∈ d.weights P e, n ∈ DataW.weightsAll P e ds
  | [], _, h, _, _ => by cases h
  | d0 :: ds, d, h, n, hn => by
    simp only [DataW.weightsAll, List.mem_append]
    rcases List.mem_cons.1 h with rfl | h
    · exact .inl hn
    · exact .inr (weightsAll_mem h n hn)

set_option maxRecDepth 100000 in
/-- A row of elements, each of which can be opened. -/
theorem open_rows {α : Type} [Inhabited α] {f : α → List Value} {k B : Nat} {T E : TypeId} {Q R : α → Prop} (hf : Wide f k) (hk : 0 < k) (hu : Try.prog.underlying T = some (.slice E)) (hc : Try.prog.cellsOf E = k) (hB : Try.prog.bytesOf E = B)
    (ho : ∀ (n : Nat) (cs : List Value) (y : DataW H × List MemPlace), DataW.trod enc Try.prog W base spare held n E cs = some y → ∃ x, cs = f x ∧ Q x ∧ ((∀ q ∈ y.1.weights Try.prog E, q ≤ reachBytes) → R x))
    {n : Nat} {v : Value} {y : DataW H × List MemPlace} (h : DataW.trod enc Try.prog W base spare held n T [v] = some y) :
    ∃ (a : Option Addr) (m c : Nat) (xs : List α), v = .slice a m c ∧ xs.length = m ∧ Lie f (fun b => b < W.heap.size) W a xs ∧ (∀ x ∈ xs, Q x) ∧ ((∀ q ∈ y.1.weights Try.prog T, q ≤ reachBytes) → m * B ≤ reachBytes ∧ ∀ x ∈ xs, R x) := by
  rcases Go.Deep.open_slice hu h with ⟨hcs, _⟩ | ⟨x, len, cap, m, j0, D, Pl, hcs, hb, hl, hm, hmm, hd, hx⟩
  · simp at hcs
    subst hcs
    exact ⟨none, 0, 0, [], rfl, rfl, Lie.nil _ _ _ _, fun x hx => (by cases hx), fun _ => ⟨by omega, fun x hx => (by cases hx)⟩⟩
  · simp at hcs
    subst hcs
    have hlm : len ≤ m := by rw [hmm]; split <;> omega
    rw [hc] at hx
    obtain ⟨b, off, spot⟩ := x
    have each : ∀ j, j < m → ∃ x : α, (∀ i u, (f x)[i]? = some u → W.cell? (((⟨b, off, spot⟩ : Addr).add (j * k)).add i) = some u) ∧ Q x ∧ ((∀ q ∈ (D j).weights Try.prog E, q ≤ reachBytes) → R x) := fun j hj => by
      obtain ⟨cs', h1, h2⟩ := hx j hj
      obtain ⟨_, hlen, hcell⟩ := World.cells?_some h1
      obtain ⟨x, rfl, k1, k2⟩ := ho _ _ _ h2
      refine ⟨x, fun i u hv => ?_, k1, k2⟩
      have hi : i < k := by have := (List.getElem?_eq_some_iff.1 hv).1; rwa [hf.len] at this
      rw [hcell i hi]; exact hv
    obtain ⟨q, hq⟩ := Go.Deep.choose_lt each
    have hspot : 0 < len → spot = none := fun hp => by
      have hl0 : 0 < (f (q 0)).length := by rw [hf.len]; exact hk
      have h0 := (hq 0 (by omega)).1 0 _ (List.getElem?_eq_getElem hl0)
      have := World.cell?_spot h0
      simpa [Addr.add] using this
    refine ⟨some ⟨b, off, spot⟩, len, cap, (List.range len).map q, rfl, by simp, ⟨by simp; omega, fun hp => ?_⟩, fun x hx => ?_, fun hw => ⟨?_, fun x hx => ?_⟩⟩
    · have hp' : 0 < len := by simpa using hp
      have hsp := hspot hp'
      subst hsp
      have hcell : ∀ j i u, j < len → (f (q j))[i]? = some u → W.cell? ⟨b, off + j * k + i, none⟩ = some u := fun j i u hj hu => by
        have h0 := (hq j (by omega)).1 i u hu
        rw [Addr.add_lit, Addr.add_lit] at h0
        exact h0
      have hl0 : 0 < (f (q 0)).length := by rw [hf.len]; exact hk
      have h00 := hcell 0 0 _ hp' (List.getElem?_eq_getElem hl0)
      refine ⟨b, off, rfl, World.block_lt_of_cell? _ _ h00, World.block_lt_of_cell? _ _ h00, fun j u hu => ?_⟩
      have hjl := (List.getElem?_eq_some_iff.1 hu).1
      rw [rowC_len hf] at hjl
      have hjk : j / k < ((List.range len).map q).length := by
        rw [Nat.div_lt_iff_lt_mul hk]; exact hjl
      have hjk2 : j / k < len := by simpa using hjk
      have hmod := Nat.mod_lt j hk
      have e := rowC_at hf ((List.range len).map q) (j / k) hjk (j % k) hmod
      have ej : j / k * k + j % k = j := by rw [Nat.mul_comm]; exact Nat.div_add_mod j k
      rw [ej, hu] at e
      have e1 : ((List.range len).map q)[j / k] = q (j / k) := by simp
      rw [e1] at e
      have := hcell (j / k) (j % k) u hjk2 e.symm
      rw [Nat.add_assoc, ej] at this
      exact this
    · obtain ⟨j, hj, rfl⟩ := List.mem_map.1 hx
      exact (hq j (by have := List.mem_range.1 hj; omega)).2.1
    · have hd' : y.1 = _ := congrArg Prod.fst hd
      have hin : (len + (m - len)) * B ∈ y.1.weights Try.prog T := by
        rw [hd']
        show _ ∈ DataW.weights Try.prog T (.slice _ _)
        unfold DataW.weights
        rw [hu]
        simp [hB]
      have h1 := hw _ hin
      exact Nat.le_trans (Nat.mul_le_mul_right _ (Nat.le_add_right _ _)) h1
    · obtain ⟨j, hj, rfl⟩ := List.mem_map.1 hx
      have hj' := List.mem_range.1 hj
      refine (hq j (by omega)).2.2 fun r hr => hw r ?_
      have hd' : y.1 = _ := congrArg Prod.fst hd
      rw [hd']
      show _ ∈ DataW.weights Try.prog T (.slice _ _)
      unfold DataW.weights
      rw [hu]
      exact List.mem_cons_of_mem _ (List.mem_append_left _ (weightsAll_mem (d := D j) (List.mem_map.2 ⟨j, hj, rfl⟩) _ hr))

theorem open_str1 {n : Nat} {cs : List Value} {y : DataW H × List MemPlace} (h : DataW.trod enc Try.prog W base spare held n 9 cs = some y) : ∃ s : ByteArray, cs = strC s := by
  obtain ⟨s, e, _, _⟩ := DataW.trod_string Try.underlying9 h
  exact ⟨s, e⟩

set_option maxRecDepth 100000 in
theorem open_blk {n : Nat} {cs : List Value} {y : DataW H × List MemPlace} (h : DataW.trod enc Try.prog W base spare held n 35 cs = some y) : ∃ b : Bk, cs = bkC b := by
  have c3 : Try.prog.cellsOf 35 = 3 := by kernel_rfl
  have ci : Try.prog.cellsOf 3 = 1 := by kernel_rfl
  obtain ⟨xs, k, hk, hxy, hl, hxl, hfld⟩ := DataW.trod_struct Try.underlying35 h
  rw [c3] at hl
  have hx3 : xs.length = 3 := hxl
  match cs, hl with
  | [v0, v1, v2], _ =>
    have g0 : DataW.trod enc Try.prog W base spare held k 3 (([v0, v1, v2].drop 0).take (Try.prog.cellsOf 3)) = xs[0]? := hfld 0 _ rfl
    have g1 : DataW.trod enc Try.prog W base spare held k 3 (([v0, v1, v2].drop 1).take (Try.prog.cellsOf 3)) = xs[1]? := hfld 1 _ rfl
    have g2 : DataW.trod enc Try.prog W base spare held k 3 (([v0, v1, v2].drop 2).take (Try.prog.cellsOf 3)) = xs[2]? := hfld 2 _ rfl
    rw [ci, List.getElem?_eq_getElem (by omega)] at g0 g1 g2
    change DataW.trod enc Try.prog W base spare held k 3 [v0] = some _ at g0
    change DataW.trod enc Try.prog W base spare held k 3 [v1] = some _ at g1
    change DataW.trod enc Try.prog W base spare held k 3 [v2] = some _ at g2
    obtain ⟨i0, e0, _, _⟩ := DataW.trod_int Try.underlying3 g0
    obtain ⟨i1, e1, _, _⟩ := DataW.trod_int Try.underlying3 g1
    obtain ⟨i2, e2, _, _⟩ := DataW.trod_int Try.underlying3 g2
    simp at e0 e1 e2
    subst e0 e1 e2
    exact ⟨⟨i0, i1, i2⟩, rfl⟩

/-- A node's five cells. -/
structure Nd5 where
  path : ByteArray
  dir : Bool
  quota : Int
  a : Option Addr
  c : Nat
  bs : List Bk
  writer : Int
def nd5C (x : Nd5) : List Value := [.string x.path, .bool x.dir, .int .i64 x.quota, .slice x.a x.bs.length x.c, .int .i64 x.writer]

set_option maxRecDepth 100000 in
theorem open_nd {n : Nat} {cs : List Value} {y : DataW H × List MemPlace} (h : DataW.trod enc Try.prog W base spare held n 39 cs = some y) : ∃ x : Nd5, cs = nd5C x ∧ Lie bkC (fun b => b < W.heap.size) W x.a x.bs ∧ ((∀ q ∈ y.1.weights Try.prog 39, q ≤ reachBytes) → x.bs.length * 24 ≤ reachBytes) := by
  have c5 : Try.prog.cellsOf 39 = 5 := by kernel_rfl
  have ci : Try.prog.cellsOf 3 = 1 := by kernel_rfl
  have cs1 : Try.prog.cellsOf 9 = 1 := by kernel_rfl
  have cb : Try.prog.cellsOf 4 = 1 := by kernel_rfl
  have cl : Try.prog.cellsOf 37 = 1 := by kernel_rfl
  obtain ⟨xs, k, hk, hxy, hl, hxl, hfld⟩ := DataW.trod_struct Try.underlying39 h
  rw [c5] at hl
  have hx5 : xs.length = 5 := hxl
  match cs, hl with
  | [v0, v1, v2, v3, v4], _ =>
    have g0 : DataW.trod enc Try.prog W base spare held k 9 (([v0, v1, v2, v3, v4].drop 0).take (Try.prog.cellsOf 9)) = xs[0]? := hfld 0 _ rfl
    have g1 : DataW.trod enc Try.prog W base spare held k 4 (([v0, v1, v2, v3, v4].drop 1).take (Try.prog.cellsOf 4)) = xs[1]? := hfld 1 _ rfl
    have g2 : DataW.trod enc Try.prog W base spare held k 3 (([v0, v1, v2, v3, v4].drop 2).take (Try.prog.cellsOf 3)) = xs[2]? := hfld 2 _ rfl
    have g3 : DataW.trod enc Try.prog W base spare held k 37 (([v0, v1, v2, v3, v4].drop 3).take (Try.prog.cellsOf 37)) = xs[3]? := hfld 3 _ rfl
    have g4 : DataW.trod enc Try.prog W base spare held k 3 (([v0, v1, v2, v3, v4].drop 4).take (Try.prog.cellsOf 3)) = xs[4]? := hfld 4 _ rfl
    rw [cs1, List.getElem?_eq_getElem (by omega)] at g0
    rw [cb, List.getElem?_eq_getElem (by omega)] at g1
    rw [ci, List.getElem?_eq_getElem (by omega)] at g2 g4
    rw [cl, List.getElem?_eq_getElem (by omega)] at g3
    change DataW.trod enc Try.prog W base spare held k 9 [v0] = some _ at g0
    change DataW.trod enc Try.prog W base spare held k 4 [v1] = some _ at g1
    change DataW.trod enc Try.prog W base spare held k 3 [v2] = some _ at g2
    change DataW.trod enc Try.prog W base spare held k 37 [v3] = some _ at g3
    change DataW.trod enc Try.prog W base spare held k 3 [v4] = some _ at g4
    obtain ⟨p, e0, _, w0⟩ := DataW.trod_string Try.underlying9 g0
    obtain ⟨d, e1, _⟩ := DataW.trod_bool Try.underlying4 g1
    obtain ⟨q, e2, _, _⟩ := DataW.trod_int Try.underlying3 g2
    obtain ⟨a, m, c, bs, e3, hm, hB, _, hW⟩ := open_rows (Q := fun _ => True) (R := fun _ => True) wideB (by omega) Try.underlying37 (by kernel_rfl) (B := 24) (by kernel_rfl) (fun n cs y h => by obtain ⟨b, e⟩ := open_blk h; exact ⟨b, e, trivial, fun _ => trivial⟩) g3
    obtain ⟨wr, e4, _, _⟩ := DataW.trod_int Try.underlying3 g4
    simp at e0 e1 e2 e4
    subst e0 e1 e2 e3 e4 hm
    refine ⟨⟨p, d, q, a, c, bs, wr⟩, rfl, hB, fun hw => (hW fun r hr => hw r ?_).1⟩
    have hD : y.1 = .agg (xs.map (·.1)) := congrArg Prod.fst hxy
    rw [hD]
    unfold DataW.weights
    rw [Try.underlying39]
    refine DataW.weights_mem_each (j := 3) (t := 37) (d := (xs[3]'(by omega)).1) rfl ?_ _ hr
    rw [List.getElem?_map, List.getElem?_eq_getElem (by omega)]; rfl

set_option maxRecDepth 100000 in
theorem open_an {n : Nat} {cs : List Value} {y : DataW H × List MemPlace} (h : DataW.trod enc Try.prog W base spare held n 41 cs = some y) : ∃ (x : Ans) (s : Sls), cs = anC x s ∧ Lie strC (fun b => b < W.heap.size) W s.a1 x.names ∧ Lie bkC (fun b => b < W.heap.size) W s.a2 x.blocks ∧ ((∀ q ∈ y.1.weights Try.prog 41, q ≤ reachBytes) → x.names.length * 16 ≤ reachBytes ∧ x.blocks.length * 24 ≤ reachBytes) := by
  have c11 : Try.prog.cellsOf 41 = 11 := by kernel_rfl
  have ci : Try.prog.cellsOf 3 = 1 := by kernel_rfl
  have ce : Try.prog.cellsOf 33 = 1 := by kernel_rfl
  have cb : Try.prog.cellsOf 35 = 3 := by kernel_rfl
  have cn : Try.prog.cellsOf 39 = 5 := by kernel_rfl
  have cl : Try.prog.cellsOf 36 = 1 := by kernel_rfl
  obtain ⟨xs, k, hk, hxy, hl, hxl, hfld⟩ := DataW.trod_struct Try.underlying41 h
  rw [c11] at hl
  have hx5 : xs.length = 5 := hxl
  match cs, hl with
  | [v0, v1, v2, v3, v4, v5, v6, v7, v8, v9, v10], _ =>
    have g0 : DataW.trod enc Try.prog W base spare held k 33 (([v0, v1, v2, v3, v4, v5, v6, v7, v8, v9, v10].drop 0).take (Try.prog.cellsOf 33)) = xs[0]? := hfld 0 _ rfl
    have g1 : DataW.trod enc Try.prog W base spare held k 35 (([v0, v1, v2, v3, v4, v5, v6, v7, v8, v9, v10].drop 1).take (Try.prog.cellsOf 35)) = xs[1]? := hfld 1 _ rfl
    have g2 : DataW.trod enc Try.prog W base spare held k 36 (([v0, v1, v2, v3, v4, v5, v6, v7, v8, v9, v10].drop 4).take (Try.prog.cellsOf 36)) = xs[2]? := hfld 2 _ rfl
    have g3 : DataW.trod enc Try.prog W base spare held k 39 (([v0, v1, v2, v3, v4, v5, v6, v7, v8, v9, v10].drop 5).take (Try.prog.cellsOf 39)) = xs[3]? := hfld 3 _ rfl
    have g4 : DataW.trod enc Try.prog W base spare held k 3 (([v0, v1, v2, v3, v4, v5, v6, v7, v8, v9, v10].drop 10).take (Try.prog.cellsOf 3)) = xs[4]? := hfld 4 _ rfl
    rw [ce, List.getElem?_eq_getElem (by omega)] at g0
    rw [cb, List.getElem?_eq_getElem (by omega)] at g1
    rw [cl, List.getElem?_eq_getElem (by omega)] at g2
    rw [cn, List.getElem?_eq_getElem (by omega)] at g3
    rw [ci, List.getElem?_eq_getElem (by omega)] at g4
    change DataW.trod enc Try.prog W base spare held k 33 [v0] = some _ at g0
    change DataW.trod enc Try.prog W base spare held k 35 [v1, v2, v3] = some _ at g1
    change DataW.trod enc Try.prog W base spare held k 36 [v4] = some _ at g2
    change DataW.trod enc Try.prog W base spare held k 39 [v5, v6, v7, v8, v9] = some _ at g3
    change DataW.trod enc Try.prog W base spare held k 3 [v10] = some _ at g4
    obtain ⟨i0, e0, _, _⟩ := DataW.trod_int Try.underlying33 g0
    obtain ⟨b, e1⟩ := open_blk g1
    obtain ⟨a, m, c, ss, e2, hm, hS, _, hW⟩ := open_rows (Q := fun _ => True) (R := fun _ => True) wideS (by omega) Try.underlying36 (by kernel_rfl) (B := 16) (by kernel_rfl) (fun n cs y h => by obtain ⟨b, e⟩ := open_str1 h; exact ⟨b, e, trivial, fun _ => trivial⟩) g2
    obtain ⟨nd, e3, hB, hWn⟩ := open_nd g3
    obtain ⟨i4, e4, _, _⟩ := DataW.trod_int Try.underlying3 g4
    obtain ⟨p, d, qq, a2, c2, bs, wr⟩ := nd
    obtain ⟨b1, b2, b3⟩ := b
    simp [bkC, nd5C] at e0 e1 e3 e4
    obtain ⟨r1, r2, r3⟩ := e1
    obtain ⟨r5, r6, r7, r8, r9⟩ := e3
    subst e0 e2 e4 r1 r2 r3 r5 r6 r7 r8 r9 hm
    have hD : y.1 = .agg (xs.map (·.1)) := congrArg Prod.fst hxy
    refine ⟨⟨i0, ⟨b1, b2, b3⟩, ss, p, d, qq, bs, wr, i4⟩, ⟨a, c, a2, c2⟩, rfl, hS, hB, fun hw => ⟨(hW fun r hr => hw r ?_).1, hWn fun r hr => hw r ?_⟩⟩
    · rw [hD]
      unfold DataW.weights
      rw [Try.underlying41]
      refine DataW.weights_mem_each (j := 2) (t := 36) (d := (xs[2]'(by omega)).1) rfl ?_ _ hr
      rw [List.getElem?_map, List.getElem?_eq_getElem (by omega)]; rfl
    · rw [hD]
      unfold DataW.weights
      rw [Try.underlying41]
      refine DataW.weights_mem_each (j := 3) (t := 39) (d := (xs[3]'(by omega)).1) rfl ?_ _ hr
      rw [List.getElem?_map, List.getElem?_eq_getElem (by omega)]; rfl

set_option maxRecDepth 100000 in
theorem open_ed2 {n : Nat} {cs : List Value} {y : DataW H × List MemPlace} (h : DataW.trod enc Try.prog W base spare held n 32 cs = some y) : ∃ (e : Ed) (a : Option Addr) (m q : Nat), cs = [.int .i64 e.k, .string e.p, .string e.t, .int .i64 e.c, .int .i64 e.l, .int .i64 e.n, .slice a m q] ∧ Nm W a m e.ls ∧ In64 e.k ∧ In64 e.c ∧ In64 e.l ∧ In64 e.n := by
  have c7 : Try.prog.cellsOf 32 = 7 := by kernel_rfl
  have ci : Try.prog.cellsOf 3 = 1 := by kernel_rfl
  have cs1 : Try.prog.cellsOf 9 = 1 := by kernel_rfl
  have cl : Try.prog.cellsOf 30 = 1 := by kernel_rfl
  obtain ⟨xs, k, hk, hxy, hl, hxl, hfld⟩ := DataW.trod_struct Try.underlying32 h
  rw [c7] at hl
  have hx7 : xs.length = 7 := hxl
  match cs, hl with
  | [v0, v1, v2, v3, v4, v5, v6], _ =>
    have g0 : DataW.trod enc Try.prog W base spare held k 3 (([v0, v1, v2, v3, v4, v5, v6].drop 0).take (Try.prog.cellsOf 3)) = xs[0]? := hfld 0 _ rfl
    have g1 : DataW.trod enc Try.prog W base spare held k 9 (([v0, v1, v2, v3, v4, v5, v6].drop 1).take (Try.prog.cellsOf 9)) = xs[1]? := hfld 1 _ rfl
    have g2 : DataW.trod enc Try.prog W base spare held k 9 (([v0, v1, v2, v3, v4, v5, v6].drop 2).take (Try.prog.cellsOf 9)) = xs[2]? := hfld 2 _ rfl
    have g3 : DataW.trod enc Try.prog W base spare held k 3 (([v0, v1, v2, v3, v4, v5, v6].drop 3).take (Try.prog.cellsOf 3)) = xs[3]? := hfld 3 _ rfl
    have g4 : DataW.trod enc Try.prog W base spare held k 3 (([v0, v1, v2, v3, v4, v5, v6].drop 4).take (Try.prog.cellsOf 3)) = xs[4]? := hfld 4 _ rfl
    have g5 : DataW.trod enc Try.prog W base spare held k 3 (([v0, v1, v2, v3, v4, v5, v6].drop 5).take (Try.prog.cellsOf 3)) = xs[5]? := hfld 5 _ rfl
    have g6 : DataW.trod enc Try.prog W base spare held k 30 (([v0, v1, v2, v3, v4, v5, v6].drop 6).take (Try.prog.cellsOf 30)) = xs[6]? := hfld 6 _ rfl
    rw [ci, List.getElem?_eq_getElem (by omega)] at g0 g3 g4 g5
    rw [cs1, List.getElem?_eq_getElem (by omega)] at g1 g2
    rw [cl, List.getElem?_eq_getElem (by omega)] at g6
    change DataW.trod enc Try.prog W base spare held k 3 [v0] = some _ at g0
    change DataW.trod enc Try.prog W base spare held k 9 [v1] = some _ at g1
    change DataW.trod enc Try.prog W base spare held k 9 [v2] = some _ at g2
    change DataW.trod enc Try.prog W base spare held k 3 [v3] = some _ at g3
    change DataW.trod enc Try.prog W base spare held k 3 [v4] = some _ at g4
    change DataW.trod enc Try.prog W base spare held k 3 [v5] = some _ at g5
    change DataW.trod enc Try.prog W base spare held k 30 [v6] = some _ at g6
    obtain ⟨i0, e0, _, w0⟩ := DataW.trod_int Try.underlying3 g0
    obtain ⟨i1, e1, _, _⟩ := DataW.trod_string Try.underlying9 g1
    obtain ⟨i2, e2, _, _⟩ := DataW.trod_string Try.underlying9 g2
    obtain ⟨i3, e3, _, w3⟩ := DataW.trod_int Try.underlying3 g3
    obtain ⟨i4, e4, _, w4⟩ := DataW.trod_int Try.underlying3 g4
    obtain ⟨i5, e5, _, w5⟩ := DataW.trod_int Try.underlying3 g5
    obtain ⟨a, m, q, zs, e6, hN⟩ := open_ls g6
    simp at e0 e1 e2 e3 e4 e5
    subst e0 e1 e2 e3 e4 e5 e6
    exact ⟨⟨i0, i1, i2, i3, i4, i5, zs⟩, a, m, q, rfl, hN, wf_in64 w0, wf_in64 w3, wf_in64 w4, wf_in64 w5⟩

set_option maxRecDepth 100000 in
/-- An edit that came in. -/
theorem open_edit2 {v : Value} {d : DataW H} {ps : List MemPlace} {r : Reach} {b0 : Nat} (hval : Value.okWide Try.prog W r b0 32 v) (h : DataW.Trod enc Try.prog W base spare held 32 v d ps) : ∃ (e : Ed) (a : Option Addr) (m q : Nat), v = edV e a m q ∧ (Nm W a m e.ls ∧ In64 e.k ∧ In64 e.c ∧ In64 e.l ∧ In64 e.n) := by
  obtain ⟨cs, rfl, hsz⟩ := okWide_struct Try.underlying32 hval
  obtain ⟨fuel, hf⟩ := h
  obtain ⟨e, a, m, q, e1, h1⟩ := open_ed2 hf
  refine ⟨e, a, m, q, ?_, h1⟩
  have e' : cs.toList = [.int .i64 e.k, .string e.p, .string e.t, .int .i64 e.c, .int .i64 e.l, .int .i64 e.n, .slice a m q] := by simpa [Value.cells] using e1
  unfold edV
  congr 1
  apply Array.toList_inj.1
  rw [e']

/-- Its lists lie in what was there; the second part by the reach. -/
structure AnGot (W : World) (x : Ans) (s : Sls) : Prop where
  one : Lie strC (fun b => b < W.heap.size) W s.a1 x.names
  two : Lie bkC (fun b => b < W.heap.size) W s.a2 x.blocks

theorem reach_is : reachBytes ≤ 140737488355328 := by unfold reachBytes; omega

theorem AnGot.into {W : World} {x : Ans} {s : Sls} (h : AnGot W x s) (hm : x.names.length * 16 ≤ reachBytes ∧ x.blocks.length * 24 ≤ reachBytes) : AnIn (fun b => b < W.heap.size) W x s := ⟨h.one, h.two, Nat.le_trans hm.1 reach_is, Nat.le_trans hm.2 reach_is⟩

set_option maxRecDepth 100000 in
/-- An answer that came in. -/
theorem open_answer {v : Value} {d : DataW H} {ps : List MemPlace} {r : Reach} {b0 : Nat} (hval : Value.okWide Try.prog W r b0 41 v) (h : DataW.Trod enc Try.prog W base spare held 41 v d ps) : ∃ (x : Ans) (s : Sls), v = anV x s ∧ AnGot W x s ∧ ((∀ q ∈ d.weights Try.prog 41, q ≤ reachBytes) → x.names.length * 16 ≤ reachBytes ∧ x.blocks.length * 24 ≤ reachBytes) := by
  obtain ⟨cs, rfl, hsz⟩ := okWide_struct Try.underlying41 hval
  obtain ⟨fuel, hf⟩ := h
  obtain ⟨x, s, e, h1, h2, h3⟩ := open_an hf
  refine ⟨x, s, ?_, ⟨h1, h2⟩, h3⟩
  have e' : cs.toList = anC x s := by simpa [Value.cells] using e
  unfold anV
  congr 1
  apply Array.toList_inj.1
  rw [e']; rfl

end

end Go.Proofs.Ythogpaojdlfjcaa.Rty
