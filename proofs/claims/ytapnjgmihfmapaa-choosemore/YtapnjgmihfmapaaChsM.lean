/- Plain: logs that are counted: the best one, the greatest common epoch, how many entries so many have. -/
import Derived.Test.YtapnjgmihfmapaaLogR0
namespace Go.Proofs.Ytapnjgmihfmapaa.Chs
open Go.RowKit Go.Proofs.Ytapnjgmihfmapaa Go.Proofs.Ytapnjgmihfmapaa.Lgg
set_option linter.unusedVariables false

theorem bel_tr {a b c : World} (h : Below a.heap.size a b) (k : Below b.heap.size b c) : Below a.heap.size a c := h.trans (k.mono h.size)
theorem bel_dr (w : World) (n : Nat) : Below w.heap.size w (w.drewN n) := below_drewN (Below.refl _ _) n

/-- A log, and where its entries lie. -/
structure Ls where
  ep : Int
  a : Option Addr
  c : Nat
  es : List En
instance : Inhabited Ls := ⟨⟨0, none, 0, []⟩⟩
def lsC (x : Ls) : List Value := [.int .i64 x.ep, .slice x.a x.es.length x.c]
theorem wideL : Wide lsC 2 := ⟨fun _ => rfl, fun x u hu => by simp [lsC] at hu; rcases hu with rfl | rfl <;> rfl⟩

def In64 (n : Int) : Prop := -9223372036854775808 ≤ n ∧ n ≤ 9223372036854775807
/-- Logs that lie at a, each with its entries. -/
structure LsAt (O O2 : Nat → Prop) (w : World) (a : Option Addr) (xs : List Ls) : Prop where
  row : Lie lsC O w a xs
  each : ∀ x ∈ xs, Lie enC O2 w x.a x.es
  eps : ∀ x ∈ xs, In64 x.ep
  room : ∀ x ∈ xs, x.es.length ≤ x.c ∧ x.es.length * 24 ≤ 140737488355328
theorem LsAt.below {O O2 : Nat → Prop} {w w' : World} {a : Option Addr} {xs : List Ls} (h : LsAt O O2 w a xs) (hb : Below w.heap.size w w') : LsAt O O2 w' a xs := ⟨h.row.below hb, fun x hx => (h.each x hx).below hb, h.eps, h.room⟩

/-- Is x ahead of y? -/
def btr (x y : Ls) : Bool := if x.ep = y.ep then decide (y.es.length < x.es.length) else decide (y.ep < x.ep)

/-- The best one of the first i; -1, if there is none. -/
def bestI (xs : List Ls) : Nat → Int
  | 0 => -1
  | i + 1 => if bestI xs i < 0 ∨ btr (xs.getD i default) (xs.getD (bestI xs i).toNat default) = true then (i : Int) else bestI xs i

theorem best_lt (xs : List Ls) (i : Nat) : -1 ≤ bestI xs i ∧ bestI xs i < (i : Int) := by
  induction i with
  | zero => exact ⟨Int.le_refl _, by show (-1 : Int) < 0; omega⟩
  | succ i ih =>
    unfold bestI
    split <;> omega
theorem best_pos (xs : List Ls) (i : Nat) (h : 0 < i) : 0 ≤ bestI xs i := by
  obtain ⟨i, rfl⟩ : ∃ j, i = j + 1 := ⟨i - 1, by omega⟩
  unfold bestI
  split
  · omega
  · rename_i h
    have := fun e => h (.inl e)
    omega

theorem btr_trans {x y z : Ls} (h1 : btr x y = true) (h2 : btr z x = true) : btr z y = true := by
  unfold btr at *
  split at h1 <;> split at h2 <;> split <;> simp only [decide_eq_true_eq] at * <;> omega
theorem btr_no {x y z : Ls} (h1 : btr x y = true) (h2 : btr z y = false) : btr z x = false := by
  cases h : btr z x with
  | false => rfl
  | true => rw [btr_trans h1 h] at h2; cases h2
theorem btr_self (x : Ls) : btr x x = false := by
  unfold btr
  rw [if_pos rfl]
  exact decide_eq_false (by omega)

/-- None of the first i is ahead of the best one. -/
theorem best_is (xs : List Ls) (i : Nat) (j : Nat) (hj : j < i) : btr (xs.getD j default) (xs.getD (bestI xs i).toNat default) = false := by
  induction i with
  | zero => omega
  | succ i ih =>
    unfold bestI
    split
    · rename_i h
      rcases Nat.lt_or_ge j i with hji | hji
      · rcases h with h | h
        · have := best_pos xs i (by omega)
          omega
        · exact btr_no h (by
            have h1 := ih hji
            exact h1)
      · obtain rfl : j = i := by omega
        exact btr_self _
    · rename_i h
      rcases Nat.lt_or_ge j i with hji | hji
      · exact ih hji
      · obtain rfl : j = i := by omega
        cases hb : btr (xs.getD j default) (xs.getD (bestI xs j).toNat default) with
        | false => rfl
        | true => exact absurd (.inr hb) h

/-- How many logs of an epoch have k entries or more. -/
def kN (xs : List Ls) (e : Int) (k : Nat) : Nat := xs.countP fun x => decide (x.ep = e) && decide (k ≤ x.es.length)
theorem kN_le (xs : List Ls) (e : Int) (k : Nat) : kN xs e k ≤ xs.length := List.countP_le_length
theorem kN_app (xs ys : List Ls) (e : Int) (k : Nat) : kN (xs ++ ys) e k = kN xs e k + kN ys e k := List.countP_append
theorem kN_one (x : Ls) (e : Int) (k : Nat) : kN [x] e k = if x.ep = e ∧ k ≤ x.es.length then 1 else 0 := by
  unfold kN
  rw [List.countP_cons]
  by_cases h1 : x.ep = e <;> by_cases h2 : k ≤ x.es.length <;> simp [h1, h2]
theorem kN_succ {xs : List Ls} {i : Nat} (hi : i < xs.length) (e : Int) (k : Nat) : kN (xs.take (i + 1)) e k = kN (xs.take i) e k + if xs[i].ep = e ∧ k ≤ xs[i].es.length then 1 else 0 := by
  rw [List.take_succ_eq_append_getElem hi, kN_app, kN_one]
theorem kN_anti (xs : List Ls) (e : Int) {j k : Nat} (h : j ≤ k) : kN xs e k ≤ kN xs e j := by
  unfold kN
  refine List.countP_mono_left fun x _ hx => ?_
  simp only [Bool.and_eq_true, decide_eq_true_eq] at hx ⊢
  exact ⟨hx.1, by omega⟩
theorem kN_ex {xs : List Ls} {e : Int} {k : Nat} (h : 0 < kN xs e k) : ∃ x ∈ xs, x.ep = e ∧ k ≤ x.es.length := by
  obtain ⟨x, hx, h2⟩ := List.countP_pos_iff.1 h
  simp only [Bool.and_eq_true, decide_eq_true_eq] at h2
  exact ⟨x, hx, h2⟩

/-- The greatest epoch that N logs or more have. -/
def Top (xs : List Ls) (N : Nat) : Option Int → Prop
  | none => ∀ e, kN xs e 0 < N
  | some e => N ≤ kN xs e 0 ∧ ∀ e', N ≤ kN xs e' 0 → e' ≤ e
theorem Top.same {xs : List Ls} {N : Nat} {o o' : Option Int} (h : Top xs N o) (h' : Top xs N o') : o = o' := by
  cases o with
  | none =>
    cases o' with
    | none => rfl
    | some e => have := h e; have := h'.1; omega
  | some e =>
    cases o' with
    | none => have := h' e; have := h.1; omega
    | some e' =>
      have h1 := h.2 _ h'.1
      have h2 := h'.2 _ h.1
      congr 1; omega

/-- What the program has found behind i logs. -/
def topI (xs : List Ls) (N : Nat) : Nat → Option Int
  | 0 => none
  | i + 1 => if N ≤ kN (xs.take (i + 1)) (xs.getD i default).ep 0 ∧ (∀ e, topI xs N i = some e → e < (xs.getD i default).ep) then some (xs.getD i default).ep else topI xs N i
theorem topI_top (xs : List Ls) (N : Nat) (hN : 1 ≤ N) (i : Nat) (hi : i ≤ xs.length) : Top (xs.take i) N (topI xs N i) := by
  induction i with
  | zero => intro e; simp [kN]; omega
  | succ i ih =>
    have hi2 : i < xs.length := by omega
    have h := ih (by omega)
    have hg : xs.getD i default = xs[i] := by rw [List.getD_eq_getElem?_getD, List.getElem?_eq_getElem hi2]; rfl
    have hk : ∀ e, kN (xs.take (i + 1)) e 0 = kN (xs.take i) e 0 + if xs[i].ep = e then 1 else 0 := fun e => by
      rw [kN_succ hi2]; simp
    unfold topI
    rw [hg]
    by_cases hc : N ≤ kN (xs.take (i + 1)) xs[i].ep 0
    · by_cases hl : ∀ e, topI xs N i = some e → e < xs[i].ep
      · rw [if_pos ⟨hc, hl⟩]
        refine ⟨hc, fun e' he' => ?_⟩
        rw [hk] at he'
        split at he'
        · omega
        · cases ht : topI xs N i with
          | none => rw [ht] at h; have := h e'; omega
          | some e0 =>
            rw [ht] at h
            have h1 := h.2 e' (by omega)
            have h2 := hl e0 ht
            omega
      · rw [if_neg (fun k => hl k.2)]
        cases ht : topI xs N i with
        | none => exact absurd (fun e he => by rw [ht] at he; cases he) hl
        | some e0 =>
          rw [ht] at h
          have hge : xs[i].ep ≤ e0 := by
            refine Int.not_lt.1 fun hlt => hl fun e he => ?_
            rw [ht] at he
            cases he
            exact hlt
          refine ⟨by have := h.1; rw [hk]; omega, fun e' he' => ?_⟩
          rw [hk] at he'
          split at he'
          · omega
          · exact h.2 e' (by omega)
    · rw [if_neg (fun k => hc k.1)]
      cases ht : topI xs N i with
      | none =>
        rw [ht] at h
        intro e
        rw [hk]
        split
        · rename_i he; subst he; rw [hk, if_pos rfl] at hc; omega
        · have := h e; omega
      | some e0 =>
        rw [ht] at h
        refine ⟨by have := h.1; rw [hk]; omega, fun e' he' => ?_⟩
        rw [hk] at he'
        split at he'
        · rename_i he; subst he; rw [hk, if_pos rfl] at hc; omega
        · exact h.2 e' (by omega)

/-- The sizes of an epoch's logs. -/
def szs (xs : List Ls) (e : Int) : List Int := (xs.filter fun x => decide (x.ep = e)).map fun x => (x.es.length : Int)
theorem szs_count (xs : List Ls) (e : Int) (k : Nat) : kN xs e k = (szs xs e).countP fun z => decide ((k : Int) ≤ z) := by
  unfold kN szs
  rw [List.countP_map, List.countP_filter]
  refine List.countP_congr fun x _ => ?_
  simp [and_comm]
theorem szs_len (xs : List Ls) (e : Int) : (szs xs e).length = kN xs e 0 := by
  unfold kN szs
  rw [List.length_map, ← List.countP_eq_length_filter]
  refine List.countP_congr fun x _ => ?_
  simp
theorem szs_snoc {xs : List Ls} {i : Nat} (hi : i < xs.length) (e : Int) : szs (xs.take (i + 1)) e = if xs[i].ep = e then szs (xs.take i) e ++ [(xs[i].es.length : Int)] else szs (xs.take i) e := by
  unfold szs
  rw [List.take_succ_eq_append_getElem hi, List.filter_append, List.map_append]
  by_cases h : xs[i].ep = e <;> simp [h]
theorem szs_in {xs : List Ls} {e z : Int} (h : z ∈ szs xs e) : ∃ x ∈ xs, x.ep = e ∧ z = (x.es.length : Int) := by
  unfold szs at h
  obtain ⟨x, hx, rfl⟩ := List.mem_map.1 h
  obtain ⟨h1, h2⟩ := List.mem_filter.1 hx
  exact ⟨x, h1, by simpa using h2, rfl⟩

def sortZ (zs : List Int) : List Int := zs.mergeSort fun x y => decide (x ≤ y)
theorem sortZ_perm (zs : List Int) : (sortZ zs).Perm zs := List.mergeSort_perm _ _
theorem sortZ_len (zs : List Int) : (sortZ zs).length = zs.length := (sortZ_perm zs).length_eq
theorem sortZ_asc (zs : List Int) : (sortZ zs).Pairwise (· ≤ ·) := by
  have := List.pairwise_mergeSort (le := fun x y : Int => decide (x ≤ y)) (fun a b c h1 h2 => by simp at *; omega) (fun a b => by simp; omega) zs
  exact this.imp fun h => by simpa using h

/-- Of a rising list the place N before its end tells what N of them reach. -/
theorem reach_is {zs : List Int} (hs : zs.Pairwise (· ≤ ·)) {N : Nat} (h1 : 1 ≤ N) (h2 : N ≤ zs.length) (k : Int) : k ≤ zs[zs.length - N]'(by omega) ↔ N ≤ zs.countP fun z => decide (k ≤ z) := by
  have hp := List.pairwise_iff_getElem.1 hs
  constructor
  · intro hk
    have e : zs.countP (fun z => decide (k ≤ z)) = (zs.take (zs.length - N)).countP (fun z => decide (k ≤ z)) + (zs.drop (zs.length - N)).countP (fun z => decide (k ≤ z)) := by
      rw [← List.countP_append, List.take_append_drop]
    have e2 : (zs.drop (zs.length - N)).countP (fun z => decide (k ≤ z)) = (zs.drop (zs.length - N)).length := by
      refine List.countP_eq_length.2 fun z hz => ?_
      obtain ⟨j, hj, rfl⟩ := List.getElem_of_mem hz
      rw [List.getElem_drop]
      rw [List.length_drop] at hj
      rcases Nat.eq_zero_or_pos j with rfl | hj0
      · simpa using hk
      · have := hp (zs.length - N) (zs.length - N + j) (by omega) (by omega) (by omega)
        exact decide_eq_true (by omega)
    rw [e, e2, List.length_drop]
    omega
  · intro hc
    refine Int.not_lt.1 fun hlt => ?_
    have e : zs.countP (fun z => decide (k ≤ z)) = (zs.take (zs.length - N + 1)).countP (fun z => decide (k ≤ z)) + (zs.drop (zs.length - N + 1)).countP (fun z => decide (k ≤ z)) := by
      rw [← List.countP_append, List.take_append_drop]
    have e2 : (zs.take (zs.length - N + 1)).countP (fun z => decide (k ≤ z)) = 0 := by
      refine List.countP_eq_zero.2 fun z hz => ?_
      obtain ⟨j, hj, rfl⟩ := List.getElem_of_mem hz
      rw [List.length_take] at hj
      rw [List.getElem_take]
      have hle : zs[j]'(by omega) ≤ zs[zs.length - N]'(by omega) := by
        rcases Nat.lt_or_ge j (zs.length - N) with h | h
        · exact hp j (zs.length - N) (by omega) (by omega) h
        · have ej : j = zs.length - N := by omega
          subst ej
          exact Int.le_refl _
      simp only [decide_eq_true_eq]
      omega
    have e3 : (zs.drop (zs.length - N + 1)).countP (fun z => decide (k ≤ z)) ≤ (zs.drop (zs.length - N + 1)).length := List.countP_le_length
    rw [List.length_drop] at e3
    omega

/-- How many entries N logs of that epoch have. -/
def kth (xs : List Ls) (e : Int) (N : Nat) : Nat := ((sortZ (szs xs e)).getD ((szs xs e).length - N) 0).toNat
theorem kth_nat {xs : List Ls} {e : Int} {N : Nat} (h1 : 1 ≤ N) (h2 : N ≤ kN xs e 0) : (sortZ (szs xs e)).getD ((szs xs e).length - N) 0 = (kth xs e N : Int) ∧ ∃ x ∈ xs, x.ep = e ∧ kth xs e N = x.es.length := by
  have hl : (szs xs e).length - N < (sortZ (szs xs e)).length := by rw [sortZ_len, szs_len]; omega
  have hm : (sortZ (szs xs e)).getD ((szs xs e).length - N) 0 ∈ szs xs e := by
    rw [List.getD_eq_getElem?_getD, List.getElem?_eq_getElem hl]
    exact (sortZ_perm _).mem_iff.1 (List.getElem_mem hl)
  obtain ⟨x, h3, h4, h5⟩ := szs_in hm
  unfold kth
  rw [h5]
  exact ⟨by omega, x, h3, h4, by omega⟩
theorem kth_is {xs : List Ls} {e : Int} {N : Nat} (h1 : 1 ≤ N) (h2 : N ≤ kN xs e 0) (k : Nat) : k ≤ kth xs e N ↔ N ≤ kN xs e k := by
  have hl : (szs xs e).length - N < (sortZ (szs xs e)).length := by rw [sortZ_len, szs_len]; omega
  have h := reach_is (sortZ_asc (szs xs e)) h1 (by rw [sortZ_len, szs_len]; exact h2) (k : Int)
  rw [szs_count, ← (sortZ_perm (szs xs e)).countP_eq, ← h]
  obtain ⟨h3, _⟩ := kth_nat h1 h2
  rw [List.getD_eq_getElem?_getD, List.getElem?_eq_getElem hl] at h3
  simp only [sortZ_len] at *
  change (sortZ (szs xs e))[(szs xs e).length - N] = _ at h3
  rw [h3]
  omega

/-- What is committed. -/
def comT (xs : List Ls) (N : Nat) : List En := match topI xs N xs.length with
  | none => []
  | some e => match xs.find? fun x => decide (x.ep = e) && decide (kth xs e N ≤ x.es.length) with
    | none => []
    | some x => x.es.take (kth xs e N)

end Go.Proofs.Ytapnjgmihfmapaa.Chs
