/- Part 41 of the proof: LogW, JrnDeed. -/
import Derived.Test.YtfmhmokbbkliaaaGreatB15
import Derived.Test.YtfmhmokbbkliaaaGreatB18
import Derived.Test.YtfmhmokbbkliaaaGreatB40
import Derived.Deep.Slices
import Derived.SizedLaws

/- A log that came in, opened. -/
namespace Go.Proofs.YtfmhmokbbkliaaaGreat.Lgg
open Go.ChangeShapes Go.WideShapes Go.ChangeAt Go.RowKit Go.Proofs.YtfmhmokbbkliaaaGreat
set_option linter.unusedVariables false

section
variable {H : Type} {enc : TypeId × Value → H} {W : World} {base : Nat} {spare : Nat → Bool} {held : Bool}

theorem weightsAll_mem {P : Program} {e : TypeId} : ∀ {ds : List (DataW H)} {d : DataW H}, d ∈ ds → ∀ n ∈ d.weights P e, n ∈ DataW.weightsAll P e ds
  | [], _, h, _, _ => by cases h
  | d0 :: ds, d, h, n, hn => by
    simp only [DataW.weightsAll, List.mem_append]
    rcases List.mem_cons.1 h with rfl | h
    · exact .inl hn
    · exact .inr (weightsAll_mem h n hn)

set_option maxRecDepth 100000 in
/-- A row of elements, each of which can be opened. -/
theorem open_rows {α : Type} [Inhabited α] {f : α → List Value} {k B : Nat} {T E : TypeId} {Q R : α → Prop} (hf : Wide f k) (hk : 0 < k) (hu : Tryz.prog.underlying T = some (.slice E)) (hc : Tryz.prog.cellsOf E = k) (hB : Tryz.prog.bytesOf E = B)
    (ho : ∀ (n : Nat) (cs : List Value) (y : DataW H × List MemPlace), DataW.trod enc Tryz.prog W base spare held n E cs = some y → ∃ x, cs = f x ∧ Q x ∧ ((∀ q ∈ y.1.weights Tryz.prog E, q ≤ reachBytes) → R x))
    {n : Nat} {v : Value} {y : DataW H × List MemPlace} (h : DataW.trod enc Tryz.prog W base spare held n T [v] = some y) :
    ∃ (a : Option Addr) (m c : Nat) (xs : List α), v = .slice a m c ∧ xs.length = m ∧ Lie f (fun b => b < W.heap.size) W a xs ∧ (∀ x ∈ xs, Q x) ∧ ((∀ q ∈ y.1.weights Tryz.prog T, q ≤ reachBytes) → m * B ≤ reachBytes ∧ ∀ x ∈ xs, R x) := by
  rcases Go.Deep.open_slice hu h with ⟨hcs, _⟩ | ⟨x, len, cap, m, j0, D, Pl, hcs, hb, hl, hm, hmm, hd, hx⟩
  · simp at hcs
    subst hcs
    exact ⟨none, 0, 0, [], rfl, rfl, Lie.nil _ _ _ _, fun x hx => (by cases hx), fun _ => ⟨by omega, fun x hx => (by cases hx)⟩⟩
  · simp at hcs
    subst hcs
    have hlm : len ≤ m := by rw [hmm]; split <;> omega
    rw [hc] at hx
    obtain ⟨b, off, spot⟩ := x
    have each : ∀ j, j < m → ∃ x : α, (∀ i u, (f x)[i]? = some u → W.cell? (((⟨b, off, spot⟩ : Addr).add (j * k)).add i) = some u) ∧ Q x ∧ ((∀ q ∈ (D j).weights Tryz.prog E, q ≤ reachBytes) → R x) := fun j hj => by
      obtain ⟨cs', h1, h2⟩ := hx j hj
      obtain ⟨_, hlen, hcell⟩ := World.cells?_some h1
      obtain ⟨x, rfl, k1, k2⟩ := ho _ _ _ h2
      refine ⟨x, fun i u hv => ?_, k1, k2⟩
      have hi : i < k := by have := (List.getElem?_eq_some_iff.1 hv).1; rwa [hf.len] at this
      rw [hcell i hi]; exact hv
    obtain ⟨q, hq⟩ := Go.Deep.choose_lt each
    have hspot : 0 < len → spot = none := fun hp => by
      have hl0 : 0 < (f (q 0)).length := by rw [hf.len]; exact hk
      have h0 := (hq 0 (by omega)).1 0 _ (List.getElem?_eq_getElem hl0)
      have := World.cell?_spot h0
      simpa [Addr.add] using this
    refine ⟨some ⟨b, off, spot⟩, len, cap, (List.range len).map q, rfl, by simp, ⟨by simp; omega, fun hp => ?_⟩, fun x hx => ?_, fun hw => ⟨?_, fun x hx => ?_⟩⟩
    · have hp' : 0 < len := by simpa using hp
      have hsp := hspot hp'
      subst hsp
      have hcell : ∀ j i u, j < len → (f (q j))[i]? = some u → W.cell? ⟨b, off + j * k + i, none⟩ = some u := fun j i u hj hu => by
        have h0 := (hq j (by omega)).1 i u hu
        rw [Addr.add_lit, Addr.add_lit] at h0
        exact h0
      have hl0 : 0 < (f (q 0)).length := by rw [hf.len]; exact hk
      have h00 := hcell 0 0 _ hp' (List.getElem?_eq_getElem hl0)
      refine ⟨b, off, rfl, World.block_lt_of_cell? _ _ h00, World.block_lt_of_cell? _ _ h00, fun j u hu => ?_⟩
      have hjl := (List.getElem?_eq_some_iff.1 hu).1
      rw [rowC_len hf] at hjl
      have hjk : j / k < ((List.range len).map q).length := by
        rw [Nat.div_lt_iff_lt_mul hk]; exact hjl
      have hjk2 : j / k < len := by simpa using hjk
      have hmod := Nat.mod_lt j hk
      have e := rowC_at hf ((List.range len).map q) (j / k) hjk (j % k) hmod
      have ej : j / k * k + j % k = j := by rw [Nat.mul_comm]; exact Nat.div_add_mod j k
      rw [ej, hu] at e
      have e1 : ((List.range len).map q)[j / k] = q (j / k) := by simp
      rw [e1] at e
      have := hcell (j / k) (j % k) u hjk2 e.symm
      rw [Nat.add_assoc, ej] at this
      exact this
    · obtain ⟨j, hj, rfl⟩ := List.mem_map.1 hx
      exact (hq j (by have := List.mem_range.1 hj; omega)).2.1
    · have hd' : y.1 = _ := congrArg Prod.fst hd
      have hin : (len + (m - len)) * B ∈ y.1.weights Tryz.prog T := by
        rw [hd']
        show _ ∈ DataW.weights Tryz.prog T (.slice _ _)
        unfold DataW.weights
        rw [hu]
        simp [hB]
      have h1 := hw _ hin
      exact Nat.le_trans (Nat.mul_le_mul_right _ (Nat.le_add_right _ _)) h1
    · obtain ⟨j, hj, rfl⟩ := List.mem_map.1 hx
      have hj' := List.mem_range.1 hj
      refine (hq j (by omega)).2.2 fun r hr => hw r ?_
      have hd' : y.1 = _ := congrArg Prod.fst hd
      rw [hd']
      show _ ∈ DataW.weights Tryz.prog T (.slice _ _)
      unfold DataW.weights
      rw [hu]
      exact List.mem_cons_of_mem _ (List.mem_append_left _ (weightsAll_mem (d := D j) (List.mem_map.2 ⟨j, hj, rfl⟩) _ hr))

set_option maxRecDepth 100000 in
theorem open_en {n : Nat} {cs : List Value} {y : DataW H × List MemPlace} (h : DataW.trod enc Tryz.prog W base spare held n 24 cs = some y) : ∃ x : En, cs = enC x ∧ x.d.size ≤ maxLen := by
  have c2 : Tryz.prog.cellsOf 24 = 2 := by kernel_rfl
  have ci : Tryz.prog.cellsOf 3 = 1 := by kernel_rfl
  have cs1 : Tryz.prog.cellsOf 9 = 1 := by kernel_rfl
  obtain ⟨xs, k, hk, hxy, hl, hxl, hfld⟩ := DataW.trod_struct Tryz.underlying24 h
  rw [c2] at hl
  have hx2 : xs.length = 2 := hxl
  match cs, hl with
  | [v0, v1], _ =>
    have g0 : DataW.trod enc Tryz.prog W base spare held k 3 (([v0, v1].drop 0).take (Tryz.prog.cellsOf 3)) = xs[0]? := hfld 0 _ rfl
    have g1 : DataW.trod enc Tryz.prog W base spare held k 9 (([v0, v1].drop 1).take (Tryz.prog.cellsOf 9)) = xs[1]? := hfld 1 _ rfl
    rw [ci, List.getElem?_eq_getElem (by omega)] at g0
    rw [cs1, List.getElem?_eq_getElem (by omega)] at g1
    change DataW.trod enc Tryz.prog W base spare held k 3 [v0] = some _ at g0
    change DataW.trod enc Tryz.prog W base spare held k 9 [v1] = some _ at g1
    obtain ⟨i0, e0, _, _⟩ := DataW.trod_int Tryz.underlying3 g0
    obtain ⟨s1, e1, _, w1⟩ := DataW.trod_string Tryz.underlying9 g1
    simp at e0 e1
    subst e0 e1
    exact ⟨⟨i0, s1⟩, rfl, w1⟩

/-- A log that came in. -/
structure LgIn (W : World) (a : Option Addr) (es : List En) : Prop where
  row : Lie enC (fun b => b < W.heap.size) W a es
  small : ∀ x ∈ es, x.d.size ≤ maxLen

set_option maxRecDepth 100000 in
theorem open_log {v : Value} {d : DataW H} {ps : List MemPlace} {r : Reach} {b0 : Nat} (hval : Value.okWide Tryz.prog W r b0 34 v) (h : DataW.Trod enc Tryz.prog W base spare held 34 v d ps) : ∃ (ep : Int) (a : Option Addr) (c : Nat) (es : List En), v = .agg #[.int .i64 ep, .slice a es.length c] ∧ LgIn W a es := by
  obtain ⟨cs, rfl, hsz⟩ := okWide_struct Tryz.underlying34 hval
  obtain ⟨fuel, hf⟩ := h
  have c2 : Tryz.prog.cellsOf 34 = 2 := by kernel_rfl
  have ci : Tryz.prog.cellsOf 3 = 1 := by kernel_rfl
  have cl : Tryz.prog.cellsOf 22 = 1 := by kernel_rfl
  have hf2 : DataW.trod enc Tryz.prog W base spare held fuel 34 cs.toList = some (d, ps) := by simpa [Value.cells] using hf
  obtain ⟨xs, k, hk, hxy, hl, hxl, hfld⟩ := DataW.trod_struct Tryz.underlying34 hf2
  rw [c2] at hl
  have hx2 : xs.length = 2 := hxl
  obtain ⟨cl2⟩ := cs
  simp only at hl hfld hf2
  match cl2, hl with
  | [v0, v1], _ =>
    have g0 : DataW.trod enc Tryz.prog W base spare held k 3 (([v0, v1].drop 0).take (Tryz.prog.cellsOf 3)) = xs[0]? := hfld 0 _ rfl
    have g1 : DataW.trod enc Tryz.prog W base spare held k 22 (([v0, v1].drop 1).take (Tryz.prog.cellsOf 22)) = xs[1]? := hfld 1 _ rfl
    rw [ci, List.getElem?_eq_getElem (by omega)] at g0
    rw [cl, List.getElem?_eq_getElem (by omega)] at g1
    change DataW.trod enc Tryz.prog W base spare held k 3 [v0] = some _ at g0
    change DataW.trod enc Tryz.prog W base spare held k 22 [v1] = some _ at g1
    obtain ⟨i0, e0, _, _⟩ := DataW.trod_int Tryz.underlying3 g0
    obtain ⟨a, m, c, es, e1, hm, hL, hQ, _⟩ := open_rows (Q := fun x : En => x.d.size ≤ maxLen) (R := fun _ => True) wideN (by omega) Tryz.underlying22 (by kernel_rfl) (B := 24) (by kernel_rfl) (fun n cs y h => by obtain ⟨x, e, k⟩ := open_en h; exact ⟨x, e, k, fun _ => trivial⟩) g1
    simp at e0
    subst e0 e1 hm
    exact ⟨i0, a, c, es, rfl, hL, hQ⟩
end

end Go.Proofs.YtfmhmokbbkliaaaGreat.Lgg

/- The deeds, the entries that came in, opened. -/
namespace Go.Proofs.YtfmhmokbbkliaaaGreat.Jrn
open Go.ChangeShapes Go.WideShapes Go.ChangeAt Go.RowKit Go.Proofs.YtfmhmokbbkliaaaGreat Go.Proofs.YtfmhmokbbkliaaaGreat.Lgg
set_option linter.unusedVariables false

/-- A deed: kind, epoch, entries, an entry, bytes, a number, what lasts. -/
structure JDd where
  kd : Int
  ep : Int
  ea : Option Addr
  ec : Nat
  es : List En
  x : En
  raw : ByteArray
  n : Int
  ka : Option Addr
  kb : Nat
  ko : Nat
  kc : Nat
  ks : List Int
instance : Inhabited JDd := ⟨⟨0, 0, none, 0, [], ⟨0, ⟨#[]⟩⟩, ⟨#[]⟩, 0, none, 0, 0, 0, []⟩⟩
def jddC (d : JDd) : List Value := [.int .i64 d.kd, .int .i64 d.ep, .slice d.ea d.es.length d.ec, .int .i64 d.x.tx, .string d.x.d, .string d.raw, .int .i64 d.n, .slice d.ka d.ks.length d.kc]
theorem wideJD : Wide jddC 8 := ⟨fun _ => rfl, fun x u hu => by simp [jddC] at hu; rcases hu with rfl | rfl | rfl | rfl | rfl | rfl | rfl | rfl <;> rfl⟩

structure JDdQ (W : World) (d : JDd) : Prop where
  kd : -9223372036854775808 ≤ d.kd ∧ d.kd ≤ 9223372036854775807
  ep : -9223372036854775808 ≤ d.ep ∧ d.ep ≤ 9223372036854775807
  lg : LgIn W d.ea d.es
  xt : -9223372036854775808 ≤ d.x.tx ∧ d.x.tx ≤ 9223372036854775807
  xd : d.x.d.size ≤ maxLen
  raw : d.raw.size ≤ maxLen
  n : -9223372036854775808 ≤ d.n ∧ d.n ≤ 9223372036854775807
  ks : Ints W .i64 d.ka d.kb d.ko d.ks
  kl : d.ks.length ≤ maxLen
  kz : ∀ k ∈ d.ks, -9223372036854775808 ≤ k ∧ k ≤ 9223372036854775807

section
variable {H : Type} {enc : TypeId × Value → H} {W : World} {base : Nat} {spare : Nat → Bool} {held : Bool}

set_option maxRecDepth 100000 in
theorem open_enB {n : Nat} {cs : List Value} {y : DataW H × List MemPlace} (h : DataW.trod enc Tryz.prog W base spare held n 24 cs = some y) : ∃ x : En, cs = enC x ∧ x.d.size ≤ maxLen ∧ -9223372036854775808 ≤ x.tx ∧ x.tx ≤ 9223372036854775807 := by
  have c2 : Tryz.prog.cellsOf 24 = 2 := by kernel_rfl
  have ci : Tryz.prog.cellsOf 3 = 1 := by kernel_rfl
  have cs1 : Tryz.prog.cellsOf 9 = 1 := by kernel_rfl
  obtain ⟨xs, k, hk, hxy, hl, hxl, hfld⟩ := DataW.trod_struct Tryz.underlying24 h
  rw [c2] at hl
  have hx2 : xs.length = 2 := hxl
  match cs, hl with
  | [v0, v1], _ =>
    have g0 : DataW.trod enc Tryz.prog W base spare held k 3 (([v0, v1].drop 0).take (Tryz.prog.cellsOf 3)) = xs[0]? := hfld 0 _ rfl
    have g1 : DataW.trod enc Tryz.prog W base spare held k 9 (([v0, v1].drop 1).take (Tryz.prog.cellsOf 9)) = xs[1]? := hfld 1 _ rfl
    rw [ci, List.getElem?_eq_getElem (by omega)] at g0
    rw [cs1, List.getElem?_eq_getElem (by omega)] at g1
    change DataW.trod enc Tryz.prog W base spare held k 3 [v0] = some _ at g0
    change DataW.trod enc Tryz.prog W base spare held k 9 [v1] = some _ at g1
    obtain ⟨i0, e0, _, w0⟩ := DataW.trod_int Tryz.underlying3 g0
    obtain ⟨s1, e1, _, w1⟩ := DataW.trod_string Tryz.underlying9 g1
    simp at e0 e1
    subst e0 e1
    exact ⟨⟨i0, s1⟩, rfl, w1, (bounds_i64 w0).1, (bounds_i64 w0).2⟩
set_option maxRecDepth 100000 in
theorem open_ensT {n : Nat} {v : Value} {y : DataW H × List MemPlace} (h : DataW.trod enc Tryz.prog W base spare held n 22 [v] = some y) : ∃ (a : Option Addr) (m c : Nat) (es : List En), v = .slice a m c ∧ es.length = m ∧ LgIn W a es := by
  obtain ⟨a, m, c, es, e1, hm, hL, hQ, _⟩ := open_rows (Q := fun x : En => x.d.size ≤ maxLen) (R := fun _ => True) wideN (by omega) Tryz.underlying22 (by kernel_rfl) (B := 24) (by kernel_rfl) (fun n cs y h => by obtain ⟨x, e, k⟩ := open_en h; exact ⟨x, e, k, fun _ => trivial⟩) h
  exact ⟨a, m, c, es, e1, hm, hL, hQ⟩

set_option maxRecDepth 100000 in
theorem open_jdd {n : Nat} {cs : List Value} {y : DataW H × List MemPlace} (h : DataW.trod enc Tryz.prog W base spare held n 55 cs = some y) : ∃ d : JDd, cs = jddC d ∧ JDdQ W d := by
  have c8 : Tryz.prog.cellsOf 55 = 8 := by kernel_rfl
  have ci : Tryz.prog.cellsOf 3 = 1 := by kernel_rfl
  have cs1 : Tryz.prog.cellsOf 9 = 1 := by kernel_rfl
  have cL : Tryz.prog.cellsOf 22 = 1 := by kernel_rfl
  have cE : Tryz.prog.cellsOf 24 = 2 := by kernel_rfl
  have cl : Tryz.prog.cellsOf 53 = 1 := by kernel_rfl
  obtain ⟨xs, k, hk, hxy, hl, hxl, hfld⟩ := DataW.trod_struct Tryz.underlying55 h
  rw [c8] at hl
  have hx7 : xs.length = 7 := hxl
  match cs, hl with
  | [v0, v1, v2, v3, v4, v5, v6, v7], _ =>
    have g0 : DataW.trod enc Tryz.prog W base spare held k 3 (([v0, v1, v2, v3, v4, v5, v6, v7].drop 0).take (Tryz.prog.cellsOf 3)) = xs[0]? := hfld 0 _ rfl
    have g1 : DataW.trod enc Tryz.prog W base spare held k 3 (([v0, v1, v2, v3, v4, v5, v6, v7].drop 1).take (Tryz.prog.cellsOf 3)) = xs[1]? := hfld 1 _ rfl
    have g2 : DataW.trod enc Tryz.prog W base spare held k 22 (([v0, v1, v2, v3, v4, v5, v6, v7].drop 2).take (Tryz.prog.cellsOf 22)) = xs[2]? := hfld 2 _ rfl
    have g3 : DataW.trod enc Tryz.prog W base spare held k 24 (([v0, v1, v2, v3, v4, v5, v6, v7].drop 3).take (Tryz.prog.cellsOf 24)) = xs[3]? := hfld 3 _ rfl
    have g4 : DataW.trod enc Tryz.prog W base spare held k 9 (([v0, v1, v2, v3, v4, v5, v6, v7].drop 5).take (Tryz.prog.cellsOf 9)) = xs[4]? := hfld 4 _ rfl
    have g5 : DataW.trod enc Tryz.prog W base spare held k 3 (([v0, v1, v2, v3, v4, v5, v6, v7].drop 6).take (Tryz.prog.cellsOf 3)) = xs[5]? := hfld 5 _ rfl
    have g6 : DataW.trod enc Tryz.prog W base spare held k 53 (([v0, v1, v2, v3, v4, v5, v6, v7].drop 7).take (Tryz.prog.cellsOf 53)) = xs[6]? := hfld 6 _ rfl
    rw [ci, List.getElem?_eq_getElem (by omega)] at g0 g1 g5
    rw [cs1, List.getElem?_eq_getElem (by omega)] at g4
    rw [cL, List.getElem?_eq_getElem (by omega)] at g2
    rw [cE, List.getElem?_eq_getElem (by omega)] at g3
    rw [cl, List.getElem?_eq_getElem (by omega)] at g6
    change DataW.trod enc Tryz.prog W base spare held k 3 [v0] = some _ at g0
    change DataW.trod enc Tryz.prog W base spare held k 3 [v1] = some _ at g1
    change DataW.trod enc Tryz.prog W base spare held k 22 [v2] = some _ at g2
    change DataW.trod enc Tryz.prog W base spare held k 24 [v3, v4] = some _ at g3
    change DataW.trod enc Tryz.prog W base spare held k 9 [v5] = some _ at g4
    change DataW.trod enc Tryz.prog W base spare held k 3 [v6] = some _ at g5
    change DataW.trod enc Tryz.prog W base spare held k 53 [v7] = some _ at g6
    obtain ⟨i0, e0, _, w0⟩ := DataW.trod_int Tryz.underlying3 g0
    obtain ⟨i1, e1, _, w1⟩ := DataW.trod_int Tryz.underlying3 g1
    obtain ⟨a, m, c, es, e2, hm, hL⟩ := open_ensT g2
    obtain ⟨x, e3, hx, hxt⟩ := open_enB g3
    obtain ⟨s4, e4, _, w4⟩ := DataW.trod_string Tryz.underlying9 g4
    obtain ⟨i5, e5, _, w5⟩ := DataW.trod_int Tryz.underlying3 g5
    have hsl : ∃ ka kl kc, v7 = .slice ka kl kc := by
      rcases open_ints Tryz.underlying53 Tryz.underlying3 ci g6 with ⟨hcs, _⟩ | ⟨x, l, c, zs, hcs, _⟩
      · exact ⟨none, 0, 0, by simpa using hcs⟩
      · exact ⟨some x, l, c, by simpa using hcs⟩
    obtain ⟨ka, kl, kc, rfl⟩ := hsl
    obtain ⟨kb, ko, ks, rfl, q1, q2, q3⟩ := open_nums (enc := enc) (P := Tryz.prog) (W := W) (base := base) (spare := spare) (held := held) (t := 53) (a := ka) (len := kl) (cap := kc) (d := (xs[6]'(by omega)).1) (ps := (xs[6]'(by omega)).2) Tryz.underlying53 Tryz.underlying3 ci ⟨k, g6⟩
    simp at e0 e1 e4 e5
    simp [enC] at e3
    obtain ⟨r4, r5⟩ := e3
    subst e0 e1 e2 e4 e5 r4 r5 hm
    exact ⟨⟨i0, i1, a, c, es, x, s4, i5, ka, kb, ko, kc, ks⟩, rfl, ⟨bounds_i64 w0, bounds_i64 w1, hL, hxt, hx, w4, bounds_i64 w5, q1, q2, fun z hz => bounds_i64 (q3 z hz)⟩⟩

/-- Deeds that came in. -/
structure JDds (W : World) (a : Option Addr) (us : List JDd) : Prop where
  lie : Lie jddC (fun b => b < W.heap.size) W a us
  each : ∀ d ∈ us, JDdQ W d

set_option maxRecDepth 100000 in
theorem open_jdeeds {a : Option Addr} {len cap : Nat} {d : DataW H} {ps : List MemPlace} (h : DataW.Trod enc Tryz.prog W base spare held 42 (.slice a len cap) d ps) : ∃ us : List JDd, us.length = len ∧ JDds W a us := by
  obtain ⟨fuel, hf⟩ := h
  obtain ⟨a', m, c, us, e, hm, hL, hQ, hW⟩ := open_rows (Q := JDdQ W) (R := fun d : JDd => True) wideJD (by omega) Tryz.underlying42 (by kernel_rfl) (B := Tryz.prog.bytesOf 55) rfl (fun n cs y h => by obtain ⟨x, e, k⟩ := open_jdd h; exact ⟨x, e, k, fun _ => trivial⟩) hf
  simp only [Value.slice.injEq] at e
  obtain ⟨rfl, rfl, rfl⟩ := e
  exact ⟨us, hm, ⟨hL, hQ⟩⟩

set_option maxRecDepth 100000 in
theorem open_jdeed {v : Value} {d : DataW H} {ps : List MemPlace} {r : Reach} {b0 : Nat} (hval : Value.okWide Tryz.prog W r b0 55 v) (h : DataW.Trod enc Tryz.prog W base spare held 55 v d ps) : ∃ u : JDd, v = .agg #[.int .i64 u.kd, .int .i64 u.ep, .slice u.ea u.es.length u.ec, .int .i64 u.x.tx, .string u.x.d, .string u.raw, .int .i64 u.n, .slice u.ka u.ks.length u.kc] ∧ JDdQ W u := by
  obtain ⟨cs, rfl, hsz⟩ := okWide_struct Tryz.underlying55 hval
  obtain ⟨fuel, hf⟩ := h
  have c8 : Tryz.prog.cellsOf 55 = 8 := by kernel_rfl
  rw [c8] at hsz
  match cs, hsz with
  | ⟨[v0, v1, v2, v3, v4, v5, v6, v7]⟩, _ =>
    have hf2 : DataW.trod enc Tryz.prog W base spare held fuel 55 [v0, v1, v2, v3, v4, v5, v6, v7] = some (d, ps) := hf
    obtain ⟨u, e, k⟩ := open_jdd hf2
    simp [jddC] at e
    obtain ⟨rfl, rfl, rfl, rfl, rfl, rfl, rfl, rfl⟩ := e
    exact ⟨u, rfl, k⟩
end

end Go.Proofs.YtfmhmokbbkliaaaGreat.Jrn
