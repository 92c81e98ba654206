/- Plain: small whole numbers as fractions: sums are exact, and a mean lies between the least and the greatest. No program in it. -/
import Derived.Test.YtjnpipjikkkkcabRealMeanM
namespace Go.Proofs.Ytjnpipjikkkkcab

theorem fiR_lt {a b : Nat} (h : a < b) (hb : b < 9007199254740992) : fiR a < fiR b := by
  rcases Nat.lt_or_ge (fiR a) (fiR b) with k | k
  · exact k
  · have := V_le k
    rw [(fiR_exact (a := a) (by omega)).1, (fiR_exact hb).1] at this
    have p := Nat.two_pow_pos 1074
    exact absurd (Nat.le_of_mul_le_mul_right this p) (by omega)
theorem fi_sv (n : Int) : sr (floatOfInt .f64 n) = sv (decide (n < 0)) (fiR n.natAbs) := by rw [sr_eq, fi_sg, fi_rg]
theorem fi_sr_lt {p q : Int} (h : p < q) (hp : p.natAbs < 9007199254740992) (hq : q.natAbs < 9007199254740992) : sr (floatOfInt .f64 p) < sr (floatOfInt .f64 q) := by
  rw [fi_sv, fi_sv]
  unfold sv
  by_cases h1 : p < 0
  · rw [decide_eq_true h1, if_pos rfl]
    by_cases h2 : q < 0
    · rw [decide_eq_true h2, if_pos rfl]
      have := fiR_lt (a := q.natAbs) (b := p.natAbs) (by omega) hp
      omega
    · rw [decide_eq_false h2]
      have := fiR_lt (a := 0) (b := p.natAbs) (by omega) hp
      simp; omega
  · rw [decide_eq_false h1, decide_eq_false (show ¬ q < 0 by omega)]
    have := fiR_lt (a := p.natAbs) (b := q.natAbs) (by omega) hq
    simp; omega
theorem fi_sr_le {p q : Int} (h : p ≤ q) (hp : p.natAbs < 9007199254740992) (hq : q.natAbs < 9007199254740992) : sr (floatOfInt .f64 p) ≤ sr (floatOfInt .f64 q) := by
  rcases Int.lt_or_eq_of_le h with k | rfl
  · have := fi_sr_lt k hp hq; omega
  · exact Int.le_refl _

theorem fi_order {p q : Int} (hp : p.natAbs < 9007199254740992) (hq : q.natAbs < 9007199254740992) : FloatKind.f64.format.order (floatOfInt .f64 p) (floatOfInt .f64 q) = some (compare p q) := by
  rcases Int.lt_trichotomy p q with h | h | h
  · rw [fo_lt (fi_nan _) (fi_nan _) (fi_sr_lt h hp hq), ← cmp_lt h]
  · subst h
    rw [fo_eqv (fi_nan _) (fi_nan _) rfl, cmp_int, if_neg (by omega), if_pos rfl]
  · rw [fo_gt (fi_nan _) (fi_nan _) (fi_sr_lt h hq hp), ← cmp_gt h]

theorem run_min_fi {P : Program} (w : World) (ts : Array TypeId) (t : TypeId) {p q : Int} (hp : p.natAbs < 9007199254740992) (hq : q.natAbs < 9007199254740992) :
    (Builtin.min_ ts t #[.float .f64 (floatOfInt .f64 p), .float .f64 (floatOfInt .f64 q)]).run P w = .ok (.float .f64 (floatOfInt .f64 (min p q))) w := by
  have ho := fi_order hp hq
  rw [cmp_int] at ho
  rcases Int.lt_trichotomy p q with h | h | h
  · rw [if_pos h] at ho
    rw [show min p q = p by omega]
    simp [Builtin.min_, Builtin.min2, ho]
  · subst h
    rw [if_neg (by omega), if_pos rfl] at ho
    rw [show min p p = p by omega]
    simp [Builtin.min_, Builtin.min2, ho]
  · rw [if_neg (by omega), if_neg (by omega)] at ho
    rw [show min p q = q by omega]
    simp [Builtin.min_, Builtin.min2, ho]
theorem run_max_fi {P : Program} (w : World) (ts : Array TypeId) (t : TypeId) {p q : Int} (hp : p.natAbs < 9007199254740992) (hq : q.natAbs < 9007199254740992) :
    (Builtin.max_ ts t #[.float .f64 (floatOfInt .f64 p), .float .f64 (floatOfInt .f64 q)]).run P w = .ok (.float .f64 (floatOfInt .f64 (max p q))) w := by
  have ho := fi_order hp hq
  rw [cmp_int] at ho
  rcases Int.lt_trichotomy p q with h | h | h
  · rw [if_pos h] at ho
    rw [show max p q = q by omega]
    simp [Builtin.max_, Builtin.max2, ho]
  · subst h
    rw [if_neg (by omega), if_pos rfl] at ho
    rw [show max p p = p by omega]
    simp [Builtin.max_, Builtin.max2, ho]
  · rw [if_neg (by omega), if_neg (by omega)] at ho
    rw [show max p q = p by omega]
    simp [Builtin.max_, Builtin.max2, ho]

theorem sv_int (E : Nat) (p : Int) : sv (decide (p < 0)) (p.natAbs * 2 ^ E) = p * ((2 ^ E : Nat) : Int) := by
  rw [sv_mul]
  congr 1
  unfold sv
  by_cases h : p < 0
  · rw [decide_eq_true h, if_pos rfl]; omega
  · rw [decide_eq_false h]; simp; omega
theorem fi_V {p : Int} (hp : p.natAbs < 9007199254740992) : sv (sg (floatOfInt .f64 p)) (rV (rg (floatOfInt .f64 p))) = p * ((2 ^ 1074 : Nat) : Int) := by
  rw [fi_sg, fi_rg, (fiR_exact hp).1]
  exact sv_int 1074 p
theorem scale_z (E : Nat) (z : Int) : (z * ((2 ^ E : Nat) : Int) = 0 ↔ z = 0) ∧ (z * ((2 ^ E : Nat) : Int) < 0 ↔ z < 0) ∧ (z * ((2 ^ E : Nat) : Int)).natAbs = z.natAbs * 2 ^ E := by
  have pc : (0 : Int) < ((2 ^ E : Nat) : Int) := by have := Nat.two_pow_pos E; omega
  refine ⟨by rw [Int.mul_eq_zero]; omega, ?_, by rw [Int.natAbs_mul, Int.natAbs_natCast]⟩
  constructor
  · intro h; apply Classical.byContradiction; intro k
    have := Int.mul_nonneg (show 0 ≤ z by omega) (Int.le_of_lt pc); omega
  · intro h; exact Int.mul_neg_of_neg_of_pos h pc

/-- Sums of whole numbers are exact. -/
theorem fi_add {p q : Int} (hp : p.natAbs < 9007199254740992) (hq : q.natAbs < 9007199254740992) : FloatKind.f64.format.add (floatOfInt .f64 p) (floatOfInt .f64 q) = some (floatOfInt .f64 (p + q)) := by
  obtain ⟨neg, n1, n2, e⟩ := add_eq (x := floatOfInt .f64 p) (y := floatOfInt .f64 q) (by rw [fi_rg]; exact (fiR_exact hp).2) (by rw [fi_rg]; exact (fiR_exact hq).2)
  rw [fi_V hp, fi_V hq, ← Int.add_mul] at e n1 n2
  obtain ⟨s1, s2, s3⟩ := scale_z 1074 (p + q)
  have hneg : neg = decide (p + q < 0) := by
    by_cases h : p + q = 0
    · rw [n2 (s1.2 h), fi_sg, fi_sg, decide_eq_false (show ¬ p + q < 0 by omega)]
      by_cases h1 : p < 0
      · rw [decide_eq_false (show ¬ q < 0 by omega), Bool.and_false]
      · rw [decide_eq_false h1, Bool.false_and]
    · rw [n1 (fun k => h (s1.1 k))]
      exact decide_eq_decide.2 s2
  rw [s3, hneg] at e
  have hi := int_eq (p + q)
  rw [hi]
  exact e

/-- The list of fractions that the numbers zs are. -/
def fis (zs : List Int) : List Nat := zs.map (floatOfInt .f64)
def zSum (zs : List Int) : Int := zs.foldl (· + ·) 0
theorem fold_fis (zs : List Int) : ∀ (S : Int) (C : Nat), (∀ z ∈ zs, z.natAbs ≤ 1000) → S.natAbs + 1000 * zs.length < 9007199254740992 → (fis zs).foldl mStep (floatOfInt .f64 S, C) = (floatOfInt .f64 (zs.foldl (· + ·) S), C + zs.length) := by
  induction zs with
  | nil => intro S C _ _; rfl
  | cons z zs ih =>
    intro S C hz hb
    have hz0 := hz z (by simp)
    simp only [List.length_cons] at hb
    show (fis zs).foldl mStep (mStep (floatOfInt .f64 S, C) (floatOfInt .f64 z)) = _
    have : mStep (floatOfInt .f64 S, C) (floatOfInt .f64 z) = (floatOfInt .f64 (S + z), C + 1) := by
      unfold mStep
      rw [if_pos (by rw [fi_rg]; exact (fiR_exact (by omega)).2), fi_add (by omega) (by omega)]; rfl
    rw [this, ih _ _ (fun y hy => hz y (by simp [hy])) (by omega), List.foldl_cons]
    congr 1
    simp; omega
theorem fi_zero : floatOfInt .f64 0 = 0 := by decide +kernel
theorem mSum_fis (zs : List Int) (hz : ∀ z ∈ zs, z.natAbs ≤ 1000) (hl : zs.length ≤ 50) : mSum (fis zs) = (floatOfInt .f64 (zSum zs), zs.length) := by
  have := fold_fis zs 0 0 hz (by simp; omega)
  unfold mSum zSum
  rw [fi_zero, Nat.zero_add] at this
  exact this

/-- With what plays no part in it. -/
def bigs (zs : List Int) : List Nat := zs.flatMap fun z => [floatOfInt .f64 z, 9221120237041090561, 9218868437227405312, 18442240474082181120]
theorem mSum_bigs (zs : List Int) : mSum (bigs zs) = mSum (fis zs) := by
  unfold mSum
  generalize ((0 : Nat), (0 : Nat)) = p
  induction zs generalizing p with
  | nil => rfl
  | cons z zs ih =>
    show ([floatOfInt .f64 z, 9221120237041090561, 9218868437227405312, 18442240474082181120] ++ bigs zs).foldl mStep p = (fis zs).foldl mStep (mStep p (floatOfInt .f64 z))
    rw [List.foldl_append, ← ih]
    congr 1
theorem meanB_bigs (zs : List Int) : meanB (bigs zs) = meanB (fis zs) := by unfold meanB; rw [mSum_bigs]

def lowZ (zs : List Int) : Int := zs.foldl min 1000
def highZ (zs : List Int) : Int := zs.foldl max (-1000)
theorem foldl_min (zs : List Int) : ∀ a : Int, zs.foldl min a ≤ a ∧ ∀ z ∈ zs, zs.foldl min a ≤ z := by
  induction zs with
  | nil => intro a; exact ⟨Int.le_refl _, fun z hz => by cases hz⟩
  | cons y ys ih =>
    intro a
    obtain ⟨h1, h2⟩ := ih (min a y)
    rw [List.foldl_cons]
    refine ⟨by omega, fun z hz => ?_⟩
    rcases List.mem_cons.1 hz with rfl | hz
    · omega
    · exact h2 z hz
theorem foldl_max (zs : List Int) : ∀ a : Int, a ≤ zs.foldl max a ∧ ∀ z ∈ zs, z ≤ zs.foldl max a := by
  induction zs with
  | nil => intro a; exact ⟨Int.le_refl _, fun z hz => by cases hz⟩
  | cons y ys ih =>
    intro a
    obtain ⟨h1, h2⟩ := ih (max a y)
    rw [List.foldl_cons]
    refine ⟨by omega, fun z hz => ?_⟩
    rcases List.mem_cons.1 hz with rfl | hz
    · omega
    · exact h2 z hz
theorem zSum_le (zs : List Int) (H : Int) (h : ∀ z ∈ zs, z ≤ H) : ∀ a : Int, zs.foldl (· + ·) a ≤ a + H * zs.length := by
  induction zs with
  | nil => intro a; simp
  | cons y ys ih =>
    intro a
    have := ih (fun z hz => h z (by simp [hz])) (a + y)
    have := h y (by simp)
    rw [List.foldl_cons, List.length_cons]
    have e : H * ((ys.length + 1 : Nat) : Int) = H * (ys.length : Int) + H := by rw [Int.natCast_add, Int.mul_add]; simp
    rw [e]; omega
theorem le_zSum (zs : List Int) (L : Int) (h : ∀ z ∈ zs, L ≤ z) : ∀ a : Int, a + L * zs.length ≤ zs.foldl (· + ·) a := by
  induction zs with
  | nil => intro a; simp
  | cons y ys ih =>
    intro a
    have := ih (fun z hz => h z (by simp [hz])) (a + y)
    have := h y (by simp)
    rw [List.foldl_cons, List.length_cons]
    have e : L * ((ys.length + 1 : Nat) : Int) = L * (ys.length : Int) + L := by rw [Int.natCast_add, Int.mul_add]; simp
    rw [e]; omega

/-- A quotient of whole numbers, and a whole number. -/
theorem dv_scale (E F a n D : Nat) : rT (a * 2 ^ E * 2 ^ F) (n * 2 ^ E) D = rT (a * 2 ^ F) n D := by
  rw [Nat.mul_right_comm, T_scale _ _ _ (Nat.two_pow_pos _)]
theorem dv_fi {a n : Nat} (ha : a < 9007199254740992) (hn : n < 9007199254740992) : dvR (fiR a) (fiR n) = rT (a * 2 ^ 4074) n 3000 := by
  unfold dvR
  rw [(fiR_exact ha).1, (fiR_exact hn).1]
  exact dv_scale 1074 4074 a n 3000
theorem fi_T (E D F : Nat) (h : E + D = F) {k r n : Nat} (hr : rV r = k * 2 ^ E) (hn0 : 0 < n) : rT (k * n * 2 ^ F) n D = r := by
  have := T_exact (r := r) D n hn0
  rw [hr, Nat.mul_assoc k, ← Nat.pow_add, h, Nat.mul_right_comm] at this
  exact this
theorem dv_le {a k n : Nat} (ha : a < 9007199254740992) (hn : n < 9007199254740992) (hk : k < 9007199254740992) (hn0 : 0 < n) (h : a ≤ k * n) : dvR (fiR a) (fiR n) ≤ fiR k := by
  rw [dv_fi ha hn, ← fi_T 1074 3000 4074 rfl (fiR_exact hk).1 hn0]
  exact T_mono _ hn0 (Nat.mul_le_mul_right _ h)
theorem le_dv {a k n : Nat} (ha : a < 9007199254740992) (hn : n < 9007199254740992) (hk : k < 9007199254740992) (hn0 : 0 < n) (h : k * n ≤ a) : fiR k ≤ dvR (fiR a) (fiR n) := by
  rw [dv_fi ha hn, ← fi_T 1074 3000 4074 rfl (fiR_exact hk).1 hn0]
  exact T_mono _ hn0 (Nat.mul_le_mul_right _ h)

theorem div_zero {y : Nat} (hy : rg y < infR) (hy0 : 0 < rg y) : FloatKind.f64.format.div 0 y = some (Ieee.double.word (false ^^ sg y) 0) := by
  obtain ⟨n, b, ey, hn, -, -⟩ := read_num hy
  have hn0 : ¬ n = 0 := by
    intro h
    have := V_pos hy0
    rw [h, Nat.zero_mul] at hn
    omega
  show Ieee.double.div 0 y = _
  unfold Ieee.Format.div
  rw [show Ieee.double.read 0 = .number false 0 (-1074) by decide, ey]
  simp only [Ieee.Datum.quotient, if_neg hn0, Option.map_some, Ieee.Format.write, Nat.zero_shiftLeft, Nat.zero_div, Nat.zero_mod]
  simp [Ieee.Format.nearest]

theorem mean_between (zs : List Int) (hz : ∀ z ∈ zs, z.natAbs ≤ 1000) (hl : zs.length ≤ 50) (h0 : 0 < zs.length) :
    isN (meanB (fis zs)) = false ∧ sr (floatOfInt .f64 (lowZ zs)) ≤ sr (meanB (fis zs)) ∧ sr (meanB (fis zs)) ≤ sr (floatOfInt .f64 (highZ zs)) := by
  have hm := mSum_fis zs hz hl
  have hL := foldl_min zs 1000
  have hH := foldl_max zs (-1000)
  have s1 := le_zSum zs _ hL.2 0
  have s2 := zSum_le zs _ hH.2 0
  obtain ⟨z0, hz0⟩ : ∃ z, z ∈ zs := by
    cases zs with
    | nil => simp at h0
    | cons z _ => exact ⟨z, by simp⟩
  have l1 : -1000 ≤ lowZ zs := by
    have : ∀ (ys : List Int) (a : Int), (∀ z ∈ ys, z.natAbs ≤ 1000) → -1000 ≤ a → -1000 ≤ ys.foldl min a := by
      intro ys
      induction ys with
      | nil => intro a _ h; exact h
      | cons y ys ih => intro a h1 h2; rw [List.foldl_cons]; exact ih _ (fun z hz => h1 z (by simp [hz])) (by have := h1 y (by simp); omega)
    exact this zs 1000 hz (by decide)
  have l2 : highZ zs ≤ 1000 := by
    have : ∀ (ys : List Int) (a : Int), (∀ z ∈ ys, z.natAbs ≤ 1000) → a ≤ 1000 → ys.foldl max a ≤ 1000 := by
      intro ys
      induction ys with
      | nil => intro a _ h; exact h
      | cons y ys ih => intro a h1 h2; rw [List.foldl_cons]; exact ih _ (fun z hz => h1 z (by simp [hz])) (by have := h1 y (by simp); omega)
    exact this zs (-1000) hz (by decide)
  have l3 : lowZ zs ≤ z0 := hL.2 z0 hz0
  have l4 : z0 ≤ highZ zs := hH.2 z0 hz0
  have l5 := hz z0 hz0
  unfold meanB
  rw [hm]
  show isN (mEnd (floatOfInt .f64 (zSum zs)) zs.length) = false ∧ _ ≤ sr (mEnd (floatOfInt .f64 (zSum zs)) zs.length) ∧ sr (mEnd (floatOfInt .f64 (zSum zs)) zs.length) ≤ _
  change 0 + lowZ zs * (zs.length : Int) ≤ zSum zs at s1
  change zSum zs ≤ 0 + highZ zs * (zs.length : Int) at s2
  generalize lowZ zs = L at *
  generalize highZ zs = H at *
  generalize zSum zs = S at *
  generalize zs.length = n at *
  have b1 : L * (n : Int) ≥ -50000 := by
    have : (-1000) * (n : Int) ≤ L * (n : Int) := Int.mul_le_mul_of_nonneg_right l1 (by omega)
    omega
  have b2 : H * (n : Int) ≤ 50000 := by
    have : H * (n : Int) ≤ 1000 * (n : Int) := Int.mul_le_mul_of_nonneg_right l2 (by omega)
    omega
  have hS : S.natAbs < 9007199254740992 := by omega
  have hfin : rg (floatOfInt .f64 S) < infR := by rw [fi_rg]; exact (fiR_exact hS).2
  have hnf : rg (floatOfInt .f64 (n : Int)) < infR := fi_fin (by omega)
  have hnp : 0 < rg (floatOfInt .f64 (n : Int)) := fi_pos (by omega)
  unfold mEnd
  rw [if_neg (by omega), if_neg (by omega)]
  rw [fi_sv L, fi_sv H]
  have key : ∀ (x : Nat), x ≤ n * 1000 → ∀ k : Nat, ((k : Int) * n).natAbs = k * n := fun _ _ k => by rw [Int.natAbs_mul, Int.natAbs_natCast, Int.natAbs_natCast]
  rcases Int.lt_trichotomy S 0 with hs | hs | hs
  · have hrp : 0 < rg (floatOfInt .f64 S) := by
      rw [fi_rg]
      have := fiR_lt (a := 0) (b := S.natAbs) (by omega) hS
      omega
    rw [dv_eq hfin hnf hrp hnp, Option.getD_some, fi_sg, fi_sg, decide_eq_true hs, decide_eq_false (show ¬ (n : Int) < 0 by omega), Bool.xor_false, fi_rg, fi_rg, Int.natAbs_natCast]
    have hLn : S.natAbs ≤ L.natAbs * n := by
      have h1 : L < 0 := by
        rcases Int.lt_or_le L 0 with h | h
        · exact h
        · have := Int.mul_nonneg h (show 0 ≤ (n : Int) by omega); omega
      have h2 : (L.natAbs * n : Nat) = (L * n).natAbs := by rw [Int.natAbs_mul, Int.natAbs_natCast]
      omega
    have hL0 : L < 0 := by
      rcases Int.lt_or_le L 0 with h | h
      · exact h
      · have := Int.mul_nonneg h (show 0 ≤ (n : Int) by omega); omega
    have t1 := dv_le (a := S.natAbs) (k := L.natAbs) (n := n) hS (by omega) (by omega) (by omega) hLn
    have t2 := (fiR_exact (a := L.natAbs) (by omega)).2
    rw [Nat.min_eq_left (by omega)]
    refine ⟨nan_of (by rw [rg_word _ (by omega)]; omega), ?_, ?_⟩
    · rw [sr_eq, sg_word _ (by omega), rg_word _ (by omega), decide_eq_true hL0]
      unfold sv; simp; omega
    · rw [sr_eq, sg_word _ (by omega), rg_word _ (by omega)]
      by_cases hH0 : H < 0
      · have hHn : H.natAbs * n ≤ S.natAbs := by
          have h2 : (H.natAbs * n : Nat) = (H * n).natAbs := by rw [Int.natAbs_mul, Int.natAbs_natCast]
          have h3 : H * (n : Int) ≤ 0 := Int.mul_nonpos_of_nonpos_of_nonneg (by omega) (by omega)
          omega
        have t3 := le_dv (a := S.natAbs) (k := H.natAbs) (n := n) hS (by omega) (by omega) (by omega) hHn
        rw [decide_eq_true hH0]
        unfold sv; simp; omega
      · rw [decide_eq_false hH0]
        unfold sv; simp
  · subst hs
    rw [fi_zero, div_zero hnf hnp, Option.getD_some, fi_sg, decide_eq_false (show ¬ (n : Int) < 0 by omega)]
    refine ⟨nan_zero, ?_, ?_⟩
    · show _ ≤ sr 0
      rw [sr_zero]
      have hL0 : L ≤ 0 := by
        rcases Int.lt_or_le 0 L with h | h
        · have := Int.mul_pos h (show 0 < (n : Int) by omega); omega
        · exact h
      by_cases h : L < 0
      · rw [decide_eq_true h]; unfold sv; simp
      · rw [show L = 0 by omega]; show sv false (fiR 0) ≤ 0; rw [fiR_zero]; decide
    · show sr 0 ≤ _
      rw [sr_zero]
      have hH0 : 0 ≤ H := by
        rcases Int.lt_or_le H 0 with h | h
        · have := Int.mul_neg_of_neg_of_pos h (show 0 < (n : Int) by omega); omega
        · exact h
      rw [decide_eq_false (by omega)]; unfold sv; simp
  · have hrp : 0 < rg (floatOfInt .f64 S) := fi_pos (by omega)
    rw [dv_eq hfin hnf hrp hnp, Option.getD_some, fi_sg, fi_sg, decide_eq_false (show ¬ S < 0 by omega), decide_eq_false (show ¬ (n : Int) < 0 by omega), Bool.xor_false, fi_rg, fi_rg, Int.natAbs_natCast]
    have hH0 : 0 < H := by
      rcases Int.lt_or_le 0 H with h | h
      · exact h
      · have := Int.mul_nonpos_of_nonpos_of_nonneg h (show 0 ≤ (n : Int) by omega); omega
    have hHn : S.natAbs ≤ H.natAbs * n := by
      have h2 : (H.natAbs * n : Nat) = (H * n).natAbs := by rw [Int.natAbs_mul, Int.natAbs_natCast]
      omega
    have t1 := dv_le (a := S.natAbs) (k := H.natAbs) (n := n) hS (by omega) (by omega) (by omega) hHn
    have t2 := (fiR_exact (a := H.natAbs) (by omega)).2
    rw [Nat.min_eq_left (by omega)]
    refine ⟨nan_of (by rw [rg_word _ (by omega)]; omega), ?_, ?_⟩
    · rw [sr_eq, sg_word _ (by omega), rg_word _ (by omega)]
      by_cases hL0 : 0 < L
      · have hLn : L.natAbs * n ≤ S.natAbs := by
          have h2 : (L.natAbs * n : Nat) = (L * n).natAbs := by rw [Int.natAbs_mul, Int.natAbs_natCast]
          have h3 := Int.mul_pos hL0 (show 0 < (n : Int) by omega)
          omega
        have t3 := le_dv (a := S.natAbs) (k := L.natAbs) (n := n) hS (by omega) (by omega) (by omega) hLn
        rw [decide_eq_false (by omega)]
        unfold sv; simp; omega
      · by_cases h : L < 0
        · rw [decide_eq_true h]; unfold sv; simp
        · rw [show L = 0 by omega]; show sv false (fiR 0) ≤ _; rw [fiR_zero]; unfold sv; simp
    · rw [sr_eq, sg_word _ (by omega), rg_word _ (by omega), decide_eq_false (by omega)]
      unfold sv; simp; omega
end Go.Proofs.Ytjnpipjikkkkcab
