/- What the statements of chapter 13 put into a cache, in plain words. -/
import Derived.Test.YthogpaojdlfjcaaRetryL1
namespace Go.Proofs.Ythogpaojdlfjcaa.Rty
open Go.RowKit Go.Proofs.Ythogpaojdlfjcaa Go.Proofs.Ythogpaojdlfjcaa.Edi

def Apart (A : CL) : Prop := A.Pairwise (fun a b => ¬ (a.1.c = b.1.c ∧ a.1.l = b.1.l))
theorem apartA_eq : ∀ {A : CL}, Apart A → ∀ {x y : Ed × Ans}, x ∈ A → y ∈ A → x.1.c = y.1.c ∧ x.1.l = y.1.l → x = y
  | [], _, _, _, hx, _, _ => by cases hx
  | a :: r, h, x, y, hx, hy, hh => by
    obtain ⟨h1, h2⟩ := List.pairwise_cons.1 h
    rcases List.mem_cons.1 hx with rfl | hx
    · rcases List.mem_cons.1 hy with rfl | hy
      · rfl
      · exact absurd hh (h1 y hy)
    · rcases List.mem_cons.1 hy with rfl | hy
      · exact absurd ⟨hh.1.symm, hh.2.symm⟩ (h1 x (by assumption))
      · exact apartA_eq h2 hx hy hh
theorem lookA_mem {A : CL} {c k : Int} {p : Ed × Ans} (h : lookA A c k = some p) : p ∈ A ∧ p.1.c = c ∧ p.1.l = k :=
  ⟨List.mem_of_find?_eq_some h, isA_iff.1 (List.find?_some (p := isA c k) h)⟩
theorem lookA_none {A : CL} {c k : Int} (h : ∀ p ∈ A, ¬ (p.1.c = c ∧ p.1.l = k)) : lookA A c k = none := List.find?_eq_none.2 (fun p hp e => h p hp (isA_iff.1 e))
theorem lookA_of {A : CL} (h : Apart A) {p : Ed × Ans} (hp : p ∈ A) {c k : Int} (hc : p.1.c = c) (hk : p.1.l = k) : lookA A c k = some p := by
  cases hl : lookA A c k with
  | none => exact absurd (isA_iff.2 ⟨hc, hk⟩) (List.find?_eq_none.1 hl p hp)
  | some q =>
    obtain ⟨h1, h2, h3⟩ := lookA_mem hl
    rw [apartA_eq h h1 hp ⟨h2.trans hc.symm, h3.trans hk.symm⟩]
theorem putA0_new {A : CL} {e : Ed} {x : Ans} (h : ∀ p ∈ A, ¬ (p.1.c = e.c ∧ p.1.l = e.l)) : putA0 A e x = A ++ [(e, x)] := by
  unfold putA0
  rw [List.filter_eq_self.2]
  intro p hp
  simp only [Bool.not_eq_true', isA, decide_eq_false_iff_not]
  exact h p hp

def px : ByteArray := ⟨#[47, 120]⟩

/-! ### the newest ones -/
def one (cl : Int) (j : Nat) : Ed × Ans := (edP 3 px cl (j : Int), anP (j : Int))
def newL (cl : Int) (i : Nat) : CL := (List.range' (i - 20) (min i 20)).map (one cl)
theorem newL_zero (cl : Int) : newL cl 0 = [] := rfl
theorem newL_len (cl : Int) (i : Nat) : (newL cl i).length = min i 20 := by simp [newL]
theorem newL_mem {cl : Int} {i : Nat} {p : Ed × Ans} (h : p ∈ newL cl i) : ∃ j, i - 20 ≤ j ∧ j < i ∧ p = one cl j := by
  obtain ⟨j, hj, rfl⟩ := List.mem_map.1 h
  have := List.mem_range'_1.1 hj
  exact ⟨j, this.1, by omega, rfl⟩
theorem mem_newL {cl : Int} {i j : Nat} (h1 : i - 20 ≤ j) (h2 : j < i) : one cl j ∈ newL cl i := List.mem_map.2 ⟨j, List.mem_range'_1.2 ⟨h1, by omega⟩, rfl⟩
theorem newL_other {cl : Int} {i : Nat} : ∀ p ∈ newL cl i, ¬ (p.1.c = cl ∧ p.1.l = (i : Int)) := fun p hp hh => by
  obtain ⟨j, h1, h2, rfl⟩ := newL_mem hp
  have : (j : Int) = (i : Int) := hh.2
  omega
theorem newL_put (cl : Int) (i : Nat) : putA (newL cl i) (edP 3 px cl (i : Int)) (anP (i : Int)) = newL cl (i + 1) := by
  have h0 : putA0 (newL cl i) (edP 3 px cl (i : Int)) (anP (i : Int)) = newL cl i ++ [one cl i] := putA0_new newL_other
  have hl : (newL cl i ++ [one cl i]).length = min i 20 + 1 := by rw [List.length_append, newL_len]; rfl
  unfold putA
  rw [h0, hl]
  by_cases h : i < 20
  · rw [if_neg (by omega)]
    unfold newL
    rw [show i - 20 = 0 by omega, show i + 1 - 20 = 0 by omega, Nat.min_eq_left (by omega), Nat.min_eq_left (by omega), List.range'_concat, List.map_append]
    simp
  · rw [if_pos (by omega)]
    unfold newL
    rw [Nat.min_eq_right (by omega), Nat.min_eq_right (by omega)]
    have e : List.map (one cl) (List.range' (i - 20) 20) ++ [one cl i] = List.map (one cl) (List.range' (i - 20) 21) := by
      have e2 : List.range' (i - 20) 21 = List.range' (i - 20) 20 ++ [i - 20 + 1 * 20] := List.range'_concat
      rw [show i - 20 + 1 * 20 = i by omega] at e2
      rw [e2, List.map_append]
      rfl
    rw [e, List.range'_succ, List.map_cons, List.tail_cons, show i - 20 + 1 = i + 1 - 20 by omega]
theorem newL_putE {cl : Int} (hc : 0 ≤ cl ∧ cl ≤ 3) {i : Nat} (hi : i ≤ 60) : PutE (newL cl i) cl (i : Int) (edP 3 px cl (i : Int)) (anP (i : Int)) 0 (newL cl (i + 1)) := by
  rw [← newL_put]
  exact .ok (rt_edP (by omega) (by decide) hc (by omega)) rfl rfl (fun p hp => absurd ⟨(lookA_mem hp).2.1, (lookA_mem hp).2.2⟩ (newL_other p (lookA_mem hp).1))
theorem newL_yes {cl : Int} {n i : Nat} (h : Apart (newL cl n)) (h1 : n - 20 ≤ i) (h2 : i < n) : getA (newL cl n) cl (i : Int) (edP 3 px cl (i : Int)) = (some (anP (i : Int)), 0) := getA_yes (lookA_of h (mem_newL h1 h2) rfl rfl)
theorem newL_no {cl : Int} {n i : Nat} (h1 : i < n - 20) : getA (newL cl n) cl (i : Int) (edP 3 px cl (i : Int)) = (none, 0) := getA_none (lookA_none (fun p hp hh => by
  obtain ⟨j, h2, h3, rfl⟩ := newL_mem hp
  have : (j : Int) = (i : Int) := hh.2
  omega))

/-! ### two clients -/
def ent (T m : Nat) : Ed × Ans := (edP 1 px ((m % 2 : Nat) : Int) ((m / 2 : Nat) : Int), anP ((10 * T + m / 2 : Nat) : Int))
/-- What is there when m calls of a turn have been put. -/
def twoL (N : Nat) : Nat → Nat → CL
  | 0, m => (List.range m).map (ent 0)
  | _ + 1, m => (List.range' m (N - m)).map (ent 0) ++ (List.range m).map (ent 1)
theorem ent_key {T m T2 m2 : Nat} (h : (ent T m).1.c = (ent T2 m2).1.c ∧ (ent T m).1.l = (ent T2 m2).1.l) : m = m2 := by
  have h1 : ((m % 2 : Nat) : Int) = ((m2 % 2 : Nat) : Int) := h.1
  have h2 : ((m / 2 : Nat) : Int) = ((m2 / 2 : Nat) : Int) := h.2
  omega
theorem twoL_mem {N T m : Nat} (hT : T < 2) {p : Ed × Ans} (h : p ∈ twoL N T m) : ∃ t j, p = ent t j ∧ (T = 0 → j < m) := by
  match T, hT with
  | 0, _ =>
    obtain ⟨j, hj, rfl⟩ := List.mem_map.1 h
    exact ⟨0, j, rfl, fun _ => List.mem_range.1 hj⟩
  | 1, _ =>
    rcases List.mem_append.1 h with h | h
    · obtain ⟨j, hj, rfl⟩ := List.mem_map.1 h
      exact ⟨0, j, rfl, fun e => by omega⟩
    · obtain ⟨j, hj, rfl⟩ := List.mem_map.1 h
      exact ⟨1, j, rfl, fun e => by omega⟩
theorem twoL_put {N T m : Nat} (hT : T < 2) (hm : m < N) (hN : N ≤ 18) : putA (twoL N T m) (ent T m).1 (ent T m).2 = twoL N T (m + 1) := by
  match T, hT with
  | 0, _ =>
    have h0 : putA0 (twoL N 0 m) (ent 0 m).1 (ent 0 m).2 = twoL N 0 m ++ [ent 0 m] := putA0_new (fun p hp hh => by
      obtain ⟨t, j, rfl, h2⟩ := twoL_mem (by omega) hp
      have := ent_key hh
      have := h2 rfl
      omega)
    have hl : (twoL N 0 m ++ [ent 0 m]).length = m + 1 := by simp [twoL]
    unfold putA
    rw [h0, hl, if_neg (by omega)]
    show (List.range m).map (ent 0) ++ [ent 0 m] = (List.range (m + 1)).map (ent 0)
    rw [List.range_succ, List.map_append]
    rfl
  | 1, _ =>
    have e1 : twoL N 1 m = ent 0 m :: ((List.range' (m + 1) (N - (m + 1))).map (ent 0) ++ (List.range m).map (ent 1)) := by
      show (List.range' m (N - m)).map (ent 0) ++ (List.range m).map (ent 1) = _
      rw [show N - m = (N - (m + 1)) + 1 by omega, List.range'_succ, List.map_cons, List.cons_append]
    have h0 : putA0 (twoL N 1 m) (ent 1 m).1 (ent 1 m).2 = ((List.range' (m + 1) (N - (m + 1))).map (ent 0) ++ (List.range m).map (ent 1)) ++ [ent 1 m] := by
      unfold putA0
      rw [e1, List.filter_cons_of_neg (by simp [isA, ent, edP]), List.filter_eq_self.2]
      intro p hp
      simp only [Bool.not_eq_true', isA, decide_eq_false_iff_not]
      intro hh
      rcases List.mem_append.1 hp with hp | hp
      · obtain ⟨j, hj, rfl⟩ := List.mem_map.1 hp
        have := ent_key (T2 := 1) hh
        have := List.mem_range'_1.1 hj
        omega
      · obtain ⟨j, hj, rfl⟩ := List.mem_map.1 hp
        have := ent_key (T2 := 1) hh
        have := List.mem_range.1 hj
        omega
    have hl : (((List.range' (m + 1) (N - (m + 1))).map (ent 0) ++ (List.range m).map (ent 1)) ++ [ent 1 m]).length = N := by simp; omega
    unfold putA
    rw [h0, hl, if_neg (by omega)]
    show _ = (List.range' (m + 1) (N - (m + 1))).map (ent 0) ++ (List.range (m + 1)).map (ent 1)
    rw [List.range_succ, List.map_append, List.append_assoc]
    rfl
theorem twoL_next (N : Nat) : twoL N 0 N = twoL N 1 0 := by
  show (List.range N).map (ent 0) = (List.range' 0 (N - 0)).map (ent 0) ++ (List.range 0).map (ent 1)
  simp [List.range_eq_range']
theorem twoL_putE {N T m : Nat} (hT : T < 2) (hm : m < N) (hN : N ≤ 18) : PutE (twoL N T m) ((m % 2 : Nat) : Int) ((m / 2 : Nat) : Int) (edP 1 px ((m % 2 : Nat) : Int) ((m / 2 : Nat) : Int)) (anP ((10 * T + m / 2 : Nat) : Int)) 0 (twoL N T (m + 1)) := by
  rw [← twoL_put hT hm hN]
  refine .ok (rt_edP (by omega) (by decide) (by omega) (by omega)) rfl rfl (fun p hp => ?_)
  obtain ⟨h1, h2, h3⟩ := lookA_mem hp
  obtain ⟨t, j, rfl, _⟩ := twoL_mem hT h1
  have := ent_key (T2 := 0) (m2 := m) ⟨h2, h3⟩
  subst this
  rfl
/-- What is left behind Forget. -/
def leftL (n below : Nat) : CL := forA ((List.range (2 * n)).map (ent 1)) 0 (below : Int)
theorem leftL_is (n below : Nat) : forA (twoL (2 * n) 1 (2 * n)) 0 (below : Int) = leftL n below := by
  show forA ((List.range' (2 * n) (2 * n - 2 * n)).map (ent 0) ++ (List.range (2 * n)).map (ent 1)) 0 (below : Int) = _
  rw [Nat.sub_self]
  rfl
theorem leftL_len (below : Nat) : ∀ n, (leftL n below).length = n + (n - below)
  | 0 => by simp [leftL, forA]
  | n + 1 => by
    have ih := leftL_len below n
    unfold leftL forA at ih ⊢
    rw [show 2 * (n + 1) = (2 * n + 1) + 1 by omega, List.range_succ, List.range_succ, List.map_append, List.map_append, List.filter_append, List.filter_append, List.length_append, List.length_append, ih]
    have e1 : ([ent 1 (2 * n)].filter fun p => !decide (p.1.c = 0 ∧ p.1.l < (below : Int))).length = if n < below then 0 else 1 := by
      have h1 : (ent 1 (2 * n)).1.c = 0 := by show (((2 * n) % 2 : Nat) : Int) = 0; omega
      have h2 : (ent 1 (2 * n)).1.l = (n : Int) := by show (((2 * n) / 2 : Nat) : Int) = n; omega
      by_cases h : n < below
      · rw [List.filter_cons_of_neg (by simp [h1, h2]; omega), if_pos h]; rfl
      · rw [List.filter_cons_of_pos (by simp [h1, h2]; omega), if_neg h]; rfl
    have e2 : ([ent 1 (2 * n + 1)].filter fun p => !decide (p.1.c = 0 ∧ p.1.l < (below : Int))).length = 1 := by
      have h1 : (ent 1 (2 * n + 1)).1.c = 1 := by show (((2 * n + 1) % 2 : Nat) : Int) = 1; omega
      rw [List.filter_cons_of_pos (by simp [h1])]; rfl
    simp only [List.map_cons, List.map_nil]
    rw [e1, e2]
    split <;> omega
theorem leftL_mem {n below m : Nat} (hm : m < 2 * n) (h : m % 2 = 1 ∨ below ≤ m / 2) : ent 1 m ∈ leftL n below := by
  refine List.mem_filter.2 ⟨List.mem_map.2 ⟨m, List.mem_range.2 hm, rfl⟩, ?_⟩
  simp only [Bool.not_eq_true', decide_eq_false_iff_not]
  intro hh
  have h1 : ((m % 2 : Nat) : Int) = 0 := hh.1
  have h2 : ((m / 2 : Nat) : Int) < (below : Int) := hh.2
  omega
theorem leftL_one {n below i : Nat} (h : Apart (leftL n below)) (hi : i < n) : getA (leftL n below) 1 (i : Int) (edP 1 px 1 (i : Int)) = (some (anP ((10 + i : Nat) : Int)), 0) := by
  have hm := leftL_mem (n := n) (below := below) (m := 2 * i + 1) (by omega) (.inl (by omega))
  have e : ent 1 (2 * i + 1) = (edP 1 px 1 (i : Int), anP ((10 + i : Nat) : Int)) := by
    unfold ent
    rw [show (2 * i + 1) % 2 = 1 by omega, show (2 * i + 1) / 2 = i by omega]
    rfl
  rw [e] at hm
  exact getA_yes (lookA_of h hm rfl rfl)
theorem leftL_yes {n below i : Nat} (h : Apart (leftL n below)) (hi : i < n) (hb : below ≤ i) : getA (leftL n below) 0 (i : Int) (edP 1 px 0 (i : Int)) = (some (anP ((10 + i : Nat) : Int)), 0) := by
  have hm := leftL_mem (n := n) (below := below) (m := 2 * i) (by omega) (.inr (by omega))
  have e : ent 1 (2 * i) = (edP 1 px 0 (i : Int), anP ((10 + i : Nat) : Int)) := by
    unfold ent
    rw [show (2 * i) % 2 = 0 by omega, show (2 * i) / 2 = i by omega]
    rfl
  rw [e] at hm
  exact getA_yes (lookA_of h hm rfl rfl)
theorem leftL_no {n below i : Nat} (hb : i < below) : getA (leftL n below) 0 (i : Int) (edP 1 px 0 (i : Int)) = (none, 0) := by
  refine getA_none (lookA_none (fun p hp hh => ?_))
  have := (List.mem_filter.1 hp).2
  simp only [Bool.not_eq_true', decide_eq_false_iff_not] at this
  exact this ⟨hh.1, by rw [hh.2]; omega⟩

def keepN (k : Int) : Nat := if k < 0 then (-(k + 1)).toNat else k.toNat
set_option maxRecDepth 100000 in
theorem pick_val (k : Int) (n Q : Nat) (w : World) (hk : -9223372036854775808 ≤ k ∧ k ≤ 9223372036854775807) (hn : 0 < n ∧ n ≤ 1000) (hQ : keepN k % n = Q) :
    Calls Try.prog 6 #[.int .i64 k, .int .i64 n] w fun e w' => e = .returned (.int .i64 Q) ∧ w' = w := by
  have hlt := Nat.mod_lt (keepN k) hn.1
  rw [hQ] at hlt
  unfold keepN at hQ
  by_cases hneg : k < 0
  · rw [if_pos hneg] at hQ
    obtain ⟨kn, hkn⟩ : ∃ kn, (-(k + 1)).toNat = kn := ⟨_, rfl⟩
    rw [hkn] at hQ
    have hkk : -(k + 1) = (kn : Int) := by omega
    have hr1 : (kn : Int).tmod (n : Int) = (Q : Int) := by rw [Int.tmod_eq_emod_of_nonneg (by omega), ← hQ]; rfl
    have hr2 : (kn : Int) % (n : Int) = (Q : Int) := by rw [← hQ]; rfl
    clear hQ hkn
    go_enter Try.func6, Try.ntmps6
    go_wp2
    go_ret
    exact ⟨rfl, rfl⟩
  · rw [if_neg hneg] at hQ
    obtain ⟨kn, hkn⟩ : ∃ kn, k.toNat = kn := ⟨_, rfl⟩
    rw [hkn] at hQ
    obtain rfl : k = (kn : Int) := by omega
    have hr1 : (kn : Int).tmod (n : Int) = (Q : Int) := by rw [Int.tmod_eq_emod_of_nonneg (by omega), ← hQ]; rfl
    have hr2 : (kn : Int) % (n : Int) = (Q : Int) := by rw [← hQ]; rfl
    clear hQ hkn
    go_enter Try.func6, Try.ntmps6
    go_wp2
    go_ret
    exact ⟨rfl, rfl⟩

end Go.Proofs.Ythogpaojdlfjcaa.Rty
