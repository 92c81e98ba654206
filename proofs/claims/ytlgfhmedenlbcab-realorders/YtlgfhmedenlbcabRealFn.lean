/- The contracts of math's small functions on fractions, of real.noNumber, real.orderSigns and real.Order. -/
import Derived.Test.YtlgfhmedenlbcabRealL
import Derived.Test.YtlgfhmedenlbcabRows
import Derived.WalkKit
import Derived.WalkSpells
import Derived.WalkLawsBesides
import Derived.Laws.BitsAll
import Derived.Deep.RegionWith
import Derived.Deep.QuietTactic
import Derived.BigQuiet
import Derived.Lib.QuietBelow
import Derived.Lib.MinMax
namespace Go.Proofs.Ytlgfhmedenlbcab
open Go.RowKit

theorem belT {a b c : World} (h : Below a.heap.size a b) (k : Below b.heap.size b c) : Below a.heap.size a c := h.trans (k.mono h.size)
theorem belD (w : World) (n : Nat) : Below w.heap.size w (w.drewN n) := below_drewN (Below.refl _ _) n
theorem retB {a : Bool} (h : a = true) : Ending.returned (.bool a) = .returned (.bool true) := by rw [h]

theorem rbits (b : Nat) (w : World) : (callFunc 24 #[.float .f64 b]).run Try.prog w = .ok (.value (.int .u64 b)) w := by
  rw [run_callFunc_extern Try.func24 (by kernel_rfl) (by kernel_rfl) (by kernel_rfl) (e := Extern.MathFloatBits.float64bits) (by kernel_rfl)]; rfl
theorem rfrom (z : Int) (w : World) : (callFunc 23 #[.int .u64 z]).run Try.prog w = .ok (.value (.float .f64 z.toNat)) w := by
  rw [run_callFunc_extern Try.func23 (by kernel_rfl) (by kernel_rfl) (by kernel_rfl) (e := Extern.MathFloatBits.float64frombits) (by kernel_rfl)]; rfl

theorem noNum_val (b : Nat) (v : Bool) (w : World) (h : isN b = v) : Calls Try.prog 18 #[.float .f64 b] w fun e w' => e = .returned (.bool v) ∧ w' = w := by
  subst h
  unfold isN
  go_enter Try.func18, Try.ntmps18
  go_wp2
  go_ret
  exact ⟨rfl, rfl⟩

theorem nan_val (w : World) : Calls Try.prog 12 #[] w fun e w' => e = .returned (.float .f64 9221120237041090561) ∧ w' = w := by
  have hrf := rfrom
  go_enter Try.func12, Try.ntmps12
  go_wp2
  go_ret
  exact ⟨rfl, rfl⟩

theorem inf_val (w : World) : Calls Try.prog 13 #[.int .i64 1] w fun e w' => e = .returned (.float .f64 9218868437227405312) ∧ w' = w := by
  have hrf := rfrom
  go_enter Try.func13, Try.ntmps13
  go_wp2
  go_ret
  exact ⟨rfl, rfl⟩

theorem ninf_val (w : World) : Calls Try.prog 13 #[.int .i64 (-1)] w fun e w' => e = .returned (.float .f64 18442240474082181120) ∧ w' = w := by
  have hrf := rfrom
  go_enter Try.func13, Try.ntmps13
  go_wp2
  go_ret
  exact ⟨rfl, rfl⟩

theorem sg_no {b : Nat} (hb : b < 18446744073709551616) (h : sg b = false) : b < 9223372036854775808 := by
  unfold sg at h; simp at h; omega
theorem sg_yes {b : Nat} (hb : b < 18446744073709551616) (h : sg b = true) : 9223372036854775808 ≤ b := by
  unfold sg at h; simp at h; omega

theorem wrap_no {b : Nat} (h : b < 9223372036854775808) : wrap64 (b : Int) = b := by unfold wrap64; omega
theorem wrap_yes {b : Nat} (hb : b < 18446744073709551616) (h : 9223372036854775808 ≤ b) : wrap64 (b : Int) = (b : Int) - 18446744073709551616 := by unfold wrap64; omega

set_option maxHeartbeats 400000 in
theorem signbit_val (b : Nat) (v : Bool) (w : World) (hb : b < 18446744073709551616) (h : sg b = v) : Calls Try.prog 20 #[.float .f64 b] w fun e w' => e = .returned (.bool v) ∧ w' = w := by
  have hrb := rbits
  have hv : decide (wrap64 (b : Int) < 0) = v := by
    subst h
    cases h : sg b
    · rw [wrap_no (sg_no hb h)]; exact decide_eq_false (by omega)
    · rw [wrap_yes hb (sg_yes hb h)]; exact decide_eq_true (by omega)
  clear h
  go_enter Try.func20, Try.ntmps20
  go_wp2
  go_ret
  exact ⟨rfl, rfl⟩

theorem and63 (b : Nat) : b &&& 9223372036854775807 = b % 9223372036854775808 := by
  rw [show 9223372036854775807 = 2 ^ 63 - 1 by decide, Nat.and_two_pow_sub_one_eq_mod]
theorem abs_bits (b : Nat) (hb : b < 18446744073709551616) : bits .andNot .u64 (b : Int) 9223372036854775808 = (rg b : Int) := by
  have := u64_andNot_nat b 9223372036854775808 hb (by decide)
  rw [show 18446744073709551615 - 9223372036854775808 = 9223372036854775807 by decide, and63] at this
  exact this

set_option maxHeartbeats 400000 in
theorem abs_val (b r : Nat) (w : World) (hb : b < 18446744073709551616) (h : rg b = r) : Calls Try.prog 27 #[.float .f64 b] w fun e w' => e = .returned (.float .f64 r) ∧ w' = w := by
  have hrb := rbits
  have hrf := rfrom
  have hA := abs_bits b hb
  rw [h] at hA
  clear h
  go_enter Try.func27, Try.ntmps27
  go_wp2
  go_ret
  exact ⟨rfl, rfl⟩

theorem rg_lt (b : Nat) : rg b < 9223372036854775808 := by unfold rg; omega
theorem rg_rg (b : Nat) : rg (rg b) = rg b := by unfold rg; omega
theorem sg_rg (b : Nat) : sg (rg b) = false := by
  have := rg_lt b
  unfold sg; rw [Nat.div_eq_of_lt this]; rfl
theorem max_rg : rg 9218868437227405311 = 9218868437227405311 := by decide
theorem max_sg : sg 9218868437227405311 = false := by decide
theorem isN_max : isN 9218868437227405311 = false := nan_of (by rw [max_rg]; decide)
theorem sr_max : sr 9218868437227405311 = 9218868437227405311 := by decide

theorem inf_cmp (b : Nat) : (FloatKind.f64.format.order b 9218868437227405311 == some Ordering.gt) = (decide (rg b = infR) && !sg b) := by
  cases hn : isN b
  · have h1 := nan_no hn
    rcases fo_three hn isN_max with ⟨h, h2, -⟩ | ⟨h, h2, -⟩ | ⟨h, h2, -⟩
    all_goals
      rw [h2]
      rw [sr_max] at h
      unfold sr at h
      unfold infR at *
      cases hs : sg b <;> simp [hs] at h ⊢ <;> omega
  · have h1 := nan_yes hn
    rw [fo_nan_l _ hn, decide_eq_false (by omega)]; rfl

set_option maxHeartbeats 400000 in
theorem isInf0_val (b : Nat) (v : Bool) (w : World) (hb : b < 18446744073709551616) (h : decide (rg b = infR) = v) : Calls Try.prog 25 #[.float .f64 b, .int .i64 0] w fun e w' => e = .returned (.bool v) ∧ w' = w := by
  have hO : (FloatKind.f64.format.order (rg b) 9218868437227405311 == some Ordering.gt) = v := by
    rw [inf_cmp, rg_rg, sg_rg, h]; simp
  obtain ⟨r, hr⟩ : ∃ r, rg b = r := ⟨_, rfl⟩
  rw [hr] at hO
  have hA := fun w => abs_val b r w hb hr
  have HA : Hid _ := hA
  clear h hr hA
  go_enter Try.func25, Try.ntmps25
  go_wp2_with (refine (HA.out _).mono ?_; rintro e w1 ⟨rfl, rfl⟩)
  go_ret
  exact ⟨rfl, rfl⟩

set_option maxHeartbeats 400000 in
theorem isInf1_val (b : Nat) (v : Bool) (w : World) (h : (decide (rg b = infR) && !sg b) = v) : Calls Try.prog 25 #[.float .f64 b, .int .i64 1] w fun e w' => e = .returned (.bool v) ∧ w' = w := by
  have hO : (FloatKind.f64.format.order b 9218868437227405311 == some Ordering.gt) = v := by
    rw [inf_cmp, h]
  clear h
  go_enter Try.func25, Try.ntmps25
  go_wp2
  go_ret
  exact ⟨rfl, rfl⟩

theorem neg_rg (b : Nat) : rg (Op.negFloat .f64 b) = rg b := by
  unfold rg Op.negFloat
  show (b ^^^ 2 ^ 63) % 2 ^ 63 = b % 2 ^ 63
  rw [Nat.xor_mod_two_pow, Nat.mod_self, Nat.xor_zero]
theorem neg_sg (b : Nat) : sg (Op.negFloat .f64 b) = !sg b := by
  unfold sg Op.negFloat
  show ((b ^^^ 2 ^ 63) / 2 ^ 63 % 2 ^ 1 == 1) = !(b / 2 ^ 63 % 2 ^ 1 == 1)
  rw [Nat.xor_div_two_pow, Nat.div_self (by decide), Nat.xor_mod_two_pow]
  have : b / 2 ^ 63 % 2 ^ 1 < 2 := Nat.mod_lt _ (by decide)
  generalize b / 2 ^ 63 % 2 ^ 1 = x at *
  match x, this with
  | 0, _ => rfl
  | 1, _ => rfl

set_option maxHeartbeats 400000 in
theorem isInfN_val (b : Nat) (v : Bool) (w : World) (h : (decide (rg b = infR) && sg b) = v) : Calls Try.prog 25 #[.float .f64 b, .int .i64 (-1)] w fun e w' => e = .returned (.bool v) ∧ w' = w := by
  have hO : (FloatKind.f64.format.order (Op.negFloat .f64 b) 9218868437227405311 == some Ordering.gt) = v := by
    rw [inf_cmp, neg_rg, neg_sg, Bool.not_not, h]
  clear h
  have hU : ∀ w, (Op.unary .neg (.float .f64 b)).run Try.prog w = .ok (.float .f64 (Op.negFloat .f64 b)) w := fun w => rfl
  generalize Op.negFloat .f64 b = c at *
  go_enter Try.func25, Try.ntmps25
  go_wp2
  go_ret
  exact ⟨rfl, rfl⟩

set_option maxHeartbeats 400000 in
theorem orderSigns_val (a b : Bool) (Z : Int) (w : World) (h : (if a = b then (0 : Int) else if a = true then -1 else 1) = Z) : Calls Try.prog 19 #[.bool a, .bool b] w fun e w' => e = .returned (.int .i64 Z) ∧ w' = w := by
  subst h
  cases a <;> cases b
  all_goals
    go_enter Try.func19, Try.ntmps19
    go_wp2
    go_ret
    exact ⟨rfl, rfl⟩

set_option maxRecDepth 100000 in
set_option maxHeartbeats 1000000 in
theorem order_val (a b : Nat) (Z : Int) (w : World) (ha : a < 18446744073709551616) (hb : b < 18446744073709551616) (h : cmpZ (key a) (key b) = Z) : Calls Try.prog 9 #[.float .f64 a, .float .f64 b] w fun e w' => e = .returned (.int .i64 Z) ∧ w' = w := by
  subst h
  rcases ord_cases a b with ⟨h1, h2, h3⟩ | ⟨h1, h2, h3⟩ | ⟨h1, h2, h3⟩ | ⟨h1, h2, h4, h5, h3⟩ | ⟨h1, h2, h4, h5, h3⟩ | ⟨h1, h2, h4, h5, -, h3⟩
  case inr.inr.inr.inr.inr =>
    have hz : (if sg a = sg b then (0 : Int) else if sg a = true then -1 else 1) = cmpZ (key a) (key b) := by
      rcases h3 with ⟨h, k⟩ | ⟨h, h', -, k⟩ | ⟨h, h', -, k⟩
      · rw [k, if_pos h]
      · rw [k, h, h']; rfl
      · rw [k, h, h']; rfl
    clear h3
    obtain ⟨Z, hZ⟩ : ∃ Z, cmpZ (key a) (key b) = Z := ⟨_, rfl⟩
    obtain ⟨s, hs⟩ : ∃ s, sg a = s := ⟨_, rfl⟩
    obtain ⟨t, ht⟩ : ∃ s, sg b = s := ⟨_, rfl⟩
    rw [hZ, hs, ht] at hz
    rw [hZ]
    have hA := fun w => noNum_val a false w h1
    have hB := fun w => noNum_val b false w h2
    have hS := fun w => signbit_val a s w ha hs
    have hT := fun w => signbit_val b t w hb ht
    have hOS := fun w => orderSigns_val s t Z w hz
    have HA : Hid _ := hA
    have HB : Hid _ := hB
    have HS : Hid _ := hS
    have HT : Hid _ := hT
    have HO : Hid _ := hOS
    clear hA hB hS hT hOS hz hs ht hZ h1 h2 ha hb
    go_enter Try.func9, Try.ntmps9
    go_wp2_with (first
      | (go_at_call_of 18 (Value.float .f64 a); refine (HA.out _).mono ?_; rintro e w1 ⟨rfl, rfl⟩)
      | (go_at_call_of 18 (Value.float .f64 b); refine (HB.out _).mono ?_; rintro e w1 ⟨rfl, rfl⟩)
      | (go_at_call_of 20 (Value.float .f64 a); refine (HS.out _).mono ?_; rintro e w1 ⟨rfl, rfl⟩)
      | (go_at_call_of 20 (Value.float .f64 b); refine (HT.out _).mono ?_; rintro e w1 ⟨rfl, rfl⟩)
      | (go_at_call 19; refine (HO.out _).mono ?_; rintro e w1 ⟨rfl, rfl⟩))
    go_ret
    exact ⟨rfl, rfl⟩
  all_goals
    rw [h3]
    have hA := fun w => noNum_val a _ w h1
    have hB := fun w => noNum_val b _ w h2
    have HA : Hid _ := hA
    have HB : Hid _ := hB
    clear hA hB h3 h1 h2 ha hb
    go_enter Try.func9, Try.ntmps9
    go_wp2_with (first
      | (go_at_call_of 18 (Value.float .f64 a); refine (HA.out _).mono ?_; rintro e w1 ⟨rfl, rfl⟩)
      | (go_at_call_of 18 (Value.float .f64 b); refine (HB.out _).mono ?_; rintro e w1 ⟨rfl, rfl⟩))
    go_ret
    exact ⟨rfl, rfl⟩

end Go.Proofs.Ytlgfhmedenlbcab
