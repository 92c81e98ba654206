/- What RealMeans leans on: the numbers that it makes, and two rows that do not lie in one block. -/
import Derived.Test.YtjnpipjikkkkcabRealZM
import Derived.Test.YtjnpipjikkkkcabRealMean
import Derived.Maps.AppendAt
import Derived.Laws.Cover2
namespace Go.Proofs.Ytjnpipjikkkkcab.realMeans
open Go.ChangeShapes Go.WideShapes Go.ChangeAt Go.RowKit
open Go.ChangeMaps (open_string shut_string)
set_option linter.unusedVariables false

theorem laidOut : laidOutB Try.prog = true := by kernel_rfl
theorem Try.infoF64 : (Try.prog.info? 22).map (fun i => (i.zero, i.size, i.bytes)) = some (some (.float .f64 0), 1, 8) := by kernel_rfl

/-- A slice of numbers that lies in memory: the numbers zs. -/
structure Ints (w : World) (k : IntKind) (a : Option Addr) (b off : Nat) (zs : List Int) : Prop where
  addr : 0 < zs.length → a = some ⟨b, off, none⟩
  cell : ∀ j (hj : j < zs.length), w.cell? ⟨b, off + j, none⟩ = some (.int k zs[j])
theorem Ints.lt {w : World} {k : IntKind} {a : Option Addr} {b off : Nat} {zs : List Int} (h : Ints w k a b off zs) (hp : 0 < zs.length) : b < w.heap.size :=
  World.block_lt_of_cell? _ _ (h.cell 0 hp)
theorem Ints.below {w w' : World} {k : IntKind} {a : Option Addr} {b off : Nat} {zs : List Int} (h : Ints w k a b off zs) (hb : Below w.heap.size w w') : Ints w' k a b off zs :=
  ⟨h.addr, fun j hj => (hb.cell (p := ⟨b, off + j, none⟩) (h.lt (by omega))).trans (h.cell j hj)⟩
theorem open_nums {H : Type} {enc : TypeId × Value → H} {P : Program} {W : World} {base : Nat} {spare : Nat → Bool} {held : Bool} {t e : TypeId} {k : IntKind} {a : Option Addr} {len cap : Nat} {d : DataW H} {ps : List MemPlace} (ht : P.underlying t = some (.slice e)) (he : P.underlying e = some (.int k)) (hc : P.cellsOf e = 1)
    (h : DataW.Trod enc P W base spare held t (.slice a len cap) d ps) : ∃ (b off : Nat) (zs : List Int), len = zs.length ∧ (Ints W k a b off zs ∧ zs.length ≤ maxLen ∧ ∀ n ∈ zs, (Lit.int k n).wf = true) := by
  obtain ⟨fuel, hf⟩ := h
  rcases open_ints ht he hc hf with ⟨hcs, _⟩ | ⟨x, l, c, ss, hcs, _, hl, hm, hz, _, hcell, hws⟩
  · simp [Value.cells] at hcs
    obtain ⟨rfl, rfl, rfl⟩ := hcs
    exact ⟨0, 0, [], rfl, ⟨fun h => absurd h (by simp), fun j hj => absurd hj (by simp)⟩, by simp, by simp⟩
  · simp [Value.cells] at hcs
    obtain ⟨rfl, rfl, rfl⟩ := hcs
    have hle : len ≤ ss.length := by rw [hz]; split <;> omega
    obtain ⟨b, off, spot⟩ := x
    refine ⟨b, off, ss.take len, by rw [List.length_take]; omega, ⟨fun hp => ?_, fun j hj => ?_⟩, by rw [List.length_take]; omega, fun s hs => hws s (List.mem_of_mem_take hs)⟩
    · have hp' : 0 < ss.length := by rw [List.length_take] at hp; omega
      have h0 := hcell 0 hp'
      have hspot : spot = none := by simpa [Addr.add] using World.cell?_spot h0
      rw [hspot]
    · rw [List.length_take] at hj
      have h0 := hcell j (by omega)
      have hspot : spot = none := by simpa [Addr.add] using World.cell?_spot (hcell 0 (by omega))
      subst hspot
      rw [Addr.add_lit] at h0
      rw [h0, List.getElem_take]
      simp [List.getD, List.getElem?_eq_getElem (show j < ss.length by omega)]

/-- The number that the statement makes of one. -/
def zOf (n : Int) : Int := (if n < 0 then -(n + 1).tmod 2001 else n % 2001) - 1000
theorem q_neg {n : Int} (h : n < 0) : ∃ Q : Nat, -(n + 1).tmod 2001 = (Q : Int) ∧ Q ≤ 2000 := by
  obtain ⟨m, hm⟩ : ∃ m : Nat, n + 1 = -(m : Int) := ⟨(-(n + 1)).toNat, by omega⟩
  refine ⟨m % 2001, ?_, by omega⟩
  rw [hm, Int.neg_tmod, Int.neg_neg]
  rfl
theorem q_pos {n : Int} (h : 0 ≤ n) : ∃ Q : Nat, n % 2001 = (Q : Int) ∧ Q ≤ 2000 := ⟨(n % 2001).toNat, by omega, by omega⟩
def zsOf (ns : List Int) (k : Nat) : List Int := (ns.take k).map zOf
theorem zsOf_next (ns : List Int) (k : Nat) (h : k < ns.length) : zsOf ns (k + 1) = zsOf ns k ++ [zOf ns[k]] := by
  unfold zsOf; rw [List.take_succ_eq_append_getElem h, List.map_append]; rfl
theorem zsOf_len (ns : List Int) (k : Nat) (h : k ≤ ns.length) : (zsOf ns k).length = k := by unfold zsOf; rw [List.length_map, List.length_take]; omega
theorem zOf_le (n : Int) : (zOf n).natAbs ≤ 1000 := by
  unfold zOf
  by_cases h : n < 0
  · obtain ⟨Q, e, h2⟩ := q_neg h
    rw [if_pos h, e]; omega
  · obtain ⟨Q, e, h2⟩ := q_pos (n := n) (by omega)
    rw [if_neg h, e]; omega
theorem zsOf_le (ns : List Int) (k : Nat) : ∀ z ∈ zsOf ns k, z.natAbs ≤ 1000 := by
  intro z hz
  unfold zsOf at hz
  obtain ⟨n, -, rfl⟩ := List.mem_map.1 hz
  exact zOf_le n
theorem low_next (zs : List Int) (z : Int) : lowZ (zs ++ [z]) = min (lowZ zs) z := by unfold lowZ; rw [List.foldl_append]; rfl
theorem high_next (zs : List Int) (z : Int) : highZ (zs ++ [z]) = max (highZ zs) z := by unfold highZ; rw [List.foldl_append]; rfl
theorem low_abs (zs : List Int) (h : ∀ z ∈ zs, z.natAbs ≤ 1000) : (lowZ zs).natAbs ≤ 1000 := by
  have : ∀ (ys : List Int) (a : Int), (∀ z ∈ ys, z.natAbs ≤ 1000) → a.natAbs ≤ 1000 → (ys.foldl min a).natAbs ≤ 1000 := by
    intro ys
    induction ys with
    | nil => intro a _ h; exact h
    | cons y ys ih => intro a h1 h2; rw [List.foldl_cons]; exact ih _ (fun z hz => h1 z (by simp [hz])) (by have := h1 y (by simp); omega)
  exact this zs 1000 h (by decide)
theorem high_abs (zs : List Int) (h : ∀ z ∈ zs, z.natAbs ≤ 1000) : (highZ zs).natAbs ≤ 1000 := by
  have : ∀ (ys : List Int) (a : Int), (∀ z ∈ ys, z.natAbs ≤ 1000) → a.natAbs ≤ 1000 → (ys.foldl max a).natAbs ≤ 1000 := by
    intro ys
    induction ys with
    | nil => intro a _ h; exact h
    | cons y ys ih => intro a h1 h2; rw [List.foldl_cons]; exact ih _ (fun z hz => h1 z (by simp [hz])) (by have := h1 y (by simp); omega)
  exact this zs (-1000) h (by decide)
theorem fis_next (zs : List Int) (z : Int) : fis (zs ++ [z]) = fis zs ++ [floatOfInt .f64 z] := by unfold fis; rw [List.map_append]; rfl
theorem bigs_next (zs : List Int) (z : Int) : bigs (zs ++ [z]) = bigs zs ++ [floatOfInt .f64 z, 9221120237041090561, 9218868437227405312, 18442240474082181120] := by unfold bigs; rw [List.flatMap_append]; simp
theorem bigs_len (zs : List Int) : (bigs zs).length = 4 * zs.length := by unfold bigs; induction zs with
  | nil => rfl
  | cons z zs ih => rw [List.flatMap_cons, List.length_append, ih]; simp; omega
theorem fi_lt64 (z : Int) : floatOfInt .f64 z < 18446744073709551616 := Ieee.Format.nearest_lt _ _ _ _
theorem fis_lt (zs : List Int) : ∀ x ∈ fis zs, x < 18446744073709551616 := by
  intro x hx
  obtain ⟨z, -, rfl⟩ := List.mem_map.1 hx
  exact fi_lt64 z
theorem bigs_lt (zs : List Int) : ∀ x ∈ bigs zs, x < 18446744073709551616 := by
  intro x hx
  obtain ⟨z, -, hz⟩ := List.mem_flatMap.1 hx
  simp at hz
  rcases hz with rfl | rfl | rfl | rfl
  · exact fi_lt64 z
  · decide
  · decide
  · decide
theorem lo0 : floatOfInt .f64 1000 = 4652007308841189376 := by decide +kernel
theorem hi0 : floatOfInt .f64 (-1000) = 13875379345695965184 := by decide +kernel

/-- Two rows that do not lie in one block. -/
def Apart (u v : Value) : Prop := u.ownBlock = none ∨ v.ownBlock = none ∨ u.ownBlock ≠ v.ownBlock
theorem Apart.left {u v : Value} (h : Apart u v) : u.ownBlock = none ∨ u.ownBlock ≠ v.ownBlock := by
  rcases h with h | h | h
  · exact .inl h
  · by_cases k : u.ownBlock = none
    · exact .inl k
    · exact .inr (by rw [h]; exact k)
  · exact .inr h
theorem Apart.symm {u v : Value} (h : Apart u v) : Apart v u := by
  rcases h with h | h | h
  · exact .inr (.inl h)
  · exact .inl h
  · exact .inr (.inr (Ne.symm h))
theorem own_lt {w : World} {base : Nat} {e : TypeId} {v : Value} {n size : Nat} {xs : List Value} (h : w.ownsRow base e size v n xs) : v.ownBlock = none ∨ ∃ g, v.ownBlock = some g ∧ g < w.heap.size := by
  rcases h.2 with ⟨rfl, _⟩ | ⟨g, cap, cur, rfl, h2, h3, h4⟩
  · exact .inl rfl
  · exact .inr ⟨g, rfl, (Array.getElem?_eq_some_iff.1 h3).1⟩
theorem Apart.next {w : World} {base : Nat} {e : TypeId} {u u' v : Value} {n size : Nat} {xs : List Value} {m : Nat} (h : Apart u v) (hv : w.ownsRow base e size v n xs) (hm : w.heap.size ≤ m) (hu : u'.ownBlock = u.ownBlock ∨ u'.ownBlock = some m) : Apart u' v := by
  rcases hu with hu | hu
  · unfold Apart; rw [hu]; exact h
  · rcases own_lt hv with k | ⟨g, k, hg⟩
    · exact .inr (.inl k)
    · refine .inr (.inr ?_)
      rw [hu, k]; intro e; injection e with e; omega

theorem wf_i64 {n : Int} (h : (Lit.int .i64 n).wf = true) : -9223372036854775808 ≤ n ∧ n ≤ 9223372036854775807 := by
  simp [Lit.wf, IntKind.max, IntKind.min, IntKind.signed, IntKind.bits] at h; omega

theorem mean_nil : meanB (fis []) = 0 := by decide +kernel
/-- What is no number, or endless, plays no part: the mean of it alone is 0. -/
theorem mean_odd {x : Nat} (h : ¬ rg x < infR) : meanB [x] = 0 := by
  unfold meanB mSum
  simp only [List.foldl_cons, List.foldl_nil]
  unfold mStep
  rw [if_neg h]; rfl
theorem sub_fin {x : Nat} (h : rg x < infR) : FloatKind.f64.format.sub x x = some 0 := by
  obtain ⟨m, a, ex, hm, -, -⟩ := read_num h
  show Ieee.double.sub x x = some 0
  unfold Ieee.Format.sub
  rw [ex]
  have hs : ∀ k, Ieee.signed (sg x) m k + Ieee.signed (!sg x) m k = 0 := by
    intro k
    unfold Ieee.signed
    cases sg x <;> simp <;> omega
  simp only [Ieee.Datum.opposite, Ieee.Datum.sum, Option.map_some, hs, Ieee.Format.write]
  rw [if_pos trivial, show (sg x && !sg x) = false by cases sg x <;> rfl]
  rfl
theorem sub_inf {x : Nat} (h : rg x = infR) : FloatKind.f64.format.sub x x = none := by
  show Ieee.double.sub x x = none
  unfold Ieee.Format.sub
  rw [read_inf h]
  cases sg x <;> rfl

/-- What the machine gives where there is no answer. -/
def nanAt (x : Nat) (w : World) : Nat := (Question.nanBits .f64 x x).cut (w.tape w.drawn (Question.nanBits .f64 x x))
theorem run_sub_none {x : Nat} (h : FloatKind.f64.format.sub x x = none) : ∀ t w, (binOp .sub t (.float .f64 x) (.float .f64 x)).run Try.prog w = .ok (.float .f64 (nanAt x w)) w.drew := by
  intro t w
  simp [binOp, Op.floatArith, h, nanAt, Question.forced]
theorem nanAt_nan (x : Nat) (w : World) : isN (nanAt x w) = true := by
  rw [isN_eq]
  refine decide_eq_true ?_
  unfold nanAt Question.cut
  generalize w.tape w.drawn (Question.nanBits .f64 x x) = t
  show infR < ((t % 2) * 2 ^ 63 + 0x7ff0000000000000 + 1 + (t / 2) % (2 ^ 52 - 1)) % 9223372036854775808
  have hy : (t / 2) % (2 ^ 52 - 1) < 4503599627370495 := Nat.mod_lt _ (by decide)
  generalize (t / 2) % (2 ^ 52 - 1) = y at *
  generalize t % 2 = a at *
  rw [show (a * 2 ^ 63 + 0x7ff0000000000000 + 1 + y) % 9223372036854775808 = 9218868437227405312 + 1 + y by omega]
  unfold infR
  omega
theorem nanAt_neq (x : Nat) (w : World) : (FloatKind.f64.format.order (nanAt x w) 0 != some .eq) = true := by
  rw [fo_nan_l _ (nanAt_nan x w)]; rfl
theorem mean_one (g x : Nat) (W : World) (hx : x < 18446744073709551616) (h : ¬ rg x < infR) (hc : W.cell? ⟨g, 0, none⟩ = some (.float .f64 x)) : Calls Try.prog 10 #[.slice (some ⟨g, 0, none⟩) 1 1] W fun e w' => e = .returned (.float .f64 0) ∧ w' = W :=
  mean_val _ g 0 1 1 0 [x] W rfl (by unfold maxLen; omega) ⟨fun _ => rfl, fun j hj => by
    obtain rfl : j = 0 := by simpa using hj
    exact hc⟩ (fun y hy => by simp at hy; omega) (mean_odd h)

end Go.Proofs.Ytjnpipjikkkkcab.realMeans
