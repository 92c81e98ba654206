/- Plain facts on quotas: how many nodes stand under a path, which hold too much, how much one may still hold. No program in it. -/
import Derived.Test.YtlfehfajaelmlaaTreeT3
namespace Go.Proofs.Ytlfehfajaelmlaa
open Go.RowKit

/-- How many stand under p. -/
def cntL (xs : NS) (p : ByteArray) : Nat := (xs.filter (fun x => underB p x.path)).length

/-- The first k of the path of these names and of each that it is under. -/
def upL (N : List ByteArray) (k : Nat) : List ByteArray := (List.range k).map (fun j => pathT (N.take (N.length - j)))

theorem upL_succ (N : List ByteArray) (k : Nat) : upL N (k + 1) = upL N k ++ [pathT (N.take (N.length - k))] := by
  unfold upL; rw [List.range_succ, List.map_append]; rfl
theorem upL_len (N : List ByteArray) (k : Nat) : (upL N k).length = k := by unfold upL; simp
/-- How often q is among them. -/
def cntT (ss : List ByteArray) (q : ByteArray) : Nat := (ss.filter (fun s => decide (s = q))).length
theorem cntT_app (a b : List ByteArray) (q : ByteArray) : cntT (a ++ b) q = cntT a q + cntT b q := by unfold cntT; rw [List.filter_append, List.length_append]
theorem cntT_one (s q : ByteArray) : cntT [s] q = if s = q then 1 else 0 := by
  unfold cntT
  by_cases h : s = q <;> simp [h]

theorem up_inj {N : List ByteArray} (g : Good N) {i j : Nat} (hi : i ≤ N.length) (hj : j ≤ N.length) (h : pathT (N.take (N.length - i)) = pathT (N.take (N.length - j))) : i = j := by
  have e := congrArg splitN h
  rw [splitN_good (good_take g _), splitN_good (good_take g _)] at e
  have := congrArg List.length e
  rw [List.length_take, List.length_take] at this
  omega

theorem up_count {N : List ByteArray} (g : Good N) (q : ByteArray) : ∀ k, k ≤ N.length + 1 → cntT (upL N k) q = if ∃ j, j < k ∧ pathT (N.take (N.length - j)) = q then 1 else 0
  | 0, _ => by
    rw [if_neg (by rintro ⟨j, hj, _⟩; omega)]; rfl
  | k + 1, hk => by
    rw [upL_succ, cntT_app, up_count g q k (by omega), cntT_one]
    by_cases h : pathT (N.take (N.length - k)) = q
    · have hn : ¬ ∃ j, j < k ∧ pathT (N.take (N.length - j)) = q := by
        rintro ⟨j, hj, e⟩
        have := up_inj g (by omega) (by omega) (e.trans h.symm)
        omega
      rw [if_neg hn, if_pos h, if_pos ⟨k, by omega, h⟩]
    · rw [if_neg h, Nat.add_zero]
      by_cases hx : ∃ j, j < k ∧ pathT (N.take (N.length - j)) = q
      · obtain ⟨j, hj, e⟩ := hx
        rw [if_pos ⟨j, hj, e⟩, if_pos ⟨j, by omega, e⟩]
      · rw [if_neg hx, if_neg]
        rintro ⟨j, hj, e⟩
        rcases Nat.lt_or_ge j k with h1 | h1
        · exact hx ⟨j, h1, e⟩
        · obtain rfl : j = k := by omega
          exact h e

theorem par_last {p d : ByteArray} (h : splitE p = 0) {m : Nat} (hl : (splitN p).length = m + 1) (hd : pathT ((splitN p).take m) = d) : ∃ n, parentX p = (d, n, 0) := by
  refine ⟨(splitN p)[m], ?_⟩
  rw [parentX_last h hl, hd]

/-- The line of a path: itself, and each that it is under. -/
def lineL (p : ByteArray) : List ByteArray := upL (splitN p) ((splitN p).length + 1)

theorem line_count {p : ByteArray} (h : splitE p = 0) (q : ByteArray) : cntT (lineL p) q = if underB q p then 1 else 0 := by
  have g := (split_ok h).1
  unfold lineL
  rw [up_count g q _ (Nat.le_refl _)]
  have e : (∃ j, j < (splitN p).length + 1 ∧ pathT ((splitN p).take ((splitN p).length - j)) = q) ↔ underB q p = true := by
    rw [underB_iff]
    constructor
    · rintro ⟨j, hj, rfl⟩
      have g2 := good_take g ((splitN p).length - j)
      exact ⟨splitE_good g2, h, by rw [splitN_good g2]; exact List.take_prefix _ _⟩
    · rintro ⟨h1, _, h3⟩
      have hl := h3.length_le
      refine ⟨(splitN p).length - (splitN q).length, by omega, ?_⟩
      rw [show (splitN p).length - ((splitN p).length - (splitN q).length) = (splitN q).length by omega, ← List.prefix_iff_eq_take.1 h3, ← splitX_ok h1]
  by_cases hu : underB q p = true
  · rw [if_pos (e.2 hu), if_pos hu]
  · rw [if_neg (fun x => hu (e.1 x)), if_neg hu]

theorem line_len (p : ByteArray) : (lineL p).length = (splitN p).length + 1 := upL_len _ _
theorem line_few (p : ByteArray) : (lineL p).length ≤ 7 := by rw [line_len]; have := @split_few p; omega
theorem line_small {p : ByteArray} (h : splitE p = 0) : ∀ s ∈ lineL p, s.size ≤ 120 := by
  intro s hs
  unfold lineL upL at hs
  obtain ⟨j, _, rfl⟩ := List.mem_map.1 hs
  exact pathT_small (good_take (split_ok h).1 _)

theorem cnt_nil (p : ByteArray) : cntL [] p = 0 := rfl
theorem cnt_app (xs ys : NS) (p : ByteArray) : cntL (xs ++ ys) p = cntL xs p + cntL ys p := by unfold cntL; rw [List.filter_append, List.length_append]
theorem cnt_one (x : Nd) (p : ByteArray) : cntL [x] p = if underB p x.path then 1 else 0 := by
  unfold cntL
  cases h : underB p x.path <;> simp [h]
theorem cnt_le (xs : NS) (p : ByteArray) : cntL xs p ≤ xs.length := List.length_filter_le _ _
theorem cnt_succ {xs : NS} {i : Nat} (hi : i < xs.length) (h : splitE xs[i].path = 0) (p : ByteArray) : cntL (xs.take (i + 1)) p = cntL (xs.take i) p + cntT (lineL xs[i].path) p := by
  rw [List.take_succ_eq_append_getElem hi, cnt_app, cnt_one, line_count h]
theorem cnt_paths {xs ys : NS} (h : xs.map (·.path) = ys.map (·.path)) (p : ByteArray) : cntL xs p = cntL ys p := by
  have e : ∀ zs : NS, cntL zs p = ((zs.map (·.path)).filter (fun q => underB p q)).length := fun zs => by
    unfold cntL; rw [List.filter_map, List.length_map]; rfl
  rw [e, e, h]

/-- A directory that holds more than its quota. -/
def overB (xs : NS) (x : Nd) : Bool := decide (0 ≤ x.quota) && decide (x.quota < (cntL xs x.path : Int))
def overL (xs : NS) : List ByteArray := (xs.filter (overB xs)).map (·.path)

/-- What is left. -/
def roomS (xs : NS) (p : ByteArray) (r : Int) (x : Nd) : Int := if 0 ≤ x.quota ∧ underB x.path p = true then min r (x.quota - (cntL xs x.path : Int)) else r
def roomF (xs : NS) (p : ByteArray) (r : Int) (l : NS) : Int := l.foldl (roomS xs p) r
def roomI (xs : NS) (p : ByteArray) : Int := if dirE xs p = 0 then max (roomF xs p (60 - (xs.length : Int)) xs) 0 else 0

theorem roomF_take (xs : NS) (p : ByteArray) (r : Int) {l : NS} {i : Nat} (hi : i < l.length) : roomF xs p r (l.take (i + 1)) = roomS xs p (roomF xs p r (l.take i)) l[i] := by
  unfold roomF
  rw [List.take_succ_eq_append_getElem hi, List.foldl_append]; rfl

/-- Where quotas are no greater than M, what is left stays within bounds. -/
theorem roomF_le (xs : NS) (p : ByteArray) : ∀ (l : NS) (r : Int), roomF xs p r l ≤ r
  | [], r => Int.le_refl _
  | x :: l, r => by
    refine Int.le_trans (roomF_le xs p l _) ?_
    unfold roomS
    split
    · exact Int.min_le_left _ _
    · exact Int.le_refl _
theorem roomF_ge (xs : NS) (p : ByteArray) : ∀ (l : NS) (r : Int), -(xs.length : Int) ≤ r → -(xs.length : Int) ≤ roomF xs p r l
  | [], r, h => h
  | x :: l, r, h => by
    refine roomF_ge xs p l _ ?_
    unfold roomS
    split
    · rename_i hc
      have := cnt_le xs x.path
      omega
    · exact h

/-- In a tree only directories have a quota. -/
theorem quota_dir {xs : NS} (h : Right xs) {x : Nd} (hx : x ∈ xs) (hq : 0 ≤ x.quota) : x.dir = true := by
  have hf := h.fit x hx
  cases hd : x.dir with
  | true => rfl
  | false =>
    unfold fitsB at hf
    rw [hd] at hf
    simp only [Bool.and_eq_true, Bool.false_eq_true, if_false] at hf
    have := hf.2
    unfold fileB headB at this
    simp only [Bool.and_eq_true, decide_eq_true_eq] at this
    have := this.1.1.1.2
    omega
theorem quota_most {xs : NS} (h : Right xs) {x : Nd} (hx : x ∈ xs) : -1 ≤ x.quota ∧ x.quota ≤ 9007199254740991 := by
  have hf := h.fit x hx
  unfold fitsB at hf
  cases hd : x.dir with
  | true =>
    rw [hd] at hf
    simp only [Bool.and_eq_true, if_true] at hf
    have := hf.2
    unfold dirB at this
    simp only [Bool.and_eq_true, decide_eq_true_eq] at this
    exact this.2
  | false =>
    rw [hd] at hf
    simp only [Bool.and_eq_true, Bool.false_eq_true, if_false] at hf
    have := hf.2
    unfold fileB headB at this
    simp only [Bool.and_eq_true, decide_eq_true_eq] at this
    have := this.1.1.1.2
    omega

/-- What does not stand in the tree has nothing under it. -/
theorem cnt_none {xs : NS} (h : Right xs) {p : ByteArray} (hp : at? xs p = none) : cntL xs p = 0 := by
  unfold cntL
  rw [List.length_eq_zero_iff, List.filter_eq_nil_iff]
  intro x hx hu
  by_cases e : p = x.path
  · exact at_none hp x hx e.symm
  · obtain ⟨y, hy, hyp, _⟩ := above h hx hu e
    exact at_none hp y hy hyp

end Go.Proofs.Ytlfehfajaelmlaa
