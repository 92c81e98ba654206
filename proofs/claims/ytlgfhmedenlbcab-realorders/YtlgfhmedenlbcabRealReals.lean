/- The contract of tabulariumlaw03.reals, where all are the same. -/
import Derived.Test.YtlgfhmedenlbcabRealSame
import Derived.Test.YtlgfhmedenlbcabRealRow
import Derived.Test.YtlgfhmedenlbcabRealSortM
namespace Go.Proofs.Ytlgfhmedenlbcab
open Go.RowKit

theorem cellD {w : World} {a : Addr} {v : Value} (h : w.cell? a = some v) (n : Nat) : (w.drewN n).cell? a = some v := ((belD w n).cell (World.block_lt_of_cell? _ _ h)).trans h
theorem fltAt {w : World} {a : Option Addr} {b off : Nat} {xs : List Nat} (h : Flts w a b off xs) (j : Nat) (hj : j < xs.length) : w.cell? ⟨b, off + j, none⟩ = some (.float .f64 (at0 xs j)) := by
  rw [at0_eq _ _ hj]; exact h.cell j hj
theorem memAt {xs : List Nat} {j : Nat} (h : j < xs.length) : at0 xs j ∈ xs := by rw [at0_eq _ _ h]; exact List.getElem_mem h

set_option maxRecDepth 100000 in
set_option maxHeartbeats 1000000 in
theorem reals_val (a1 : Option Addr) (b1 off1 c1 : Nat) (a2 : Option Addr) (b2 off2 c2 n : Nat) (xs ys : List Nat) (w : World) (hx : xs.length = n) (hy : ys.length = n) (hn : n ≤ 1000) (h1 : Flts w a1 b1 off1 xs) (h2 : Flts w a2 b2 off2 ys)
    (bx : ∀ x ∈ xs, x < 18446744073709551616) (byy : ∀ y ∈ ys, y < 18446744073709551616) (hk : ∀ j, j < n → key (at0 xs j) = key (at0 ys j)) :
    Calls Try.prog 7 #[.slice a1 n c1, .slice a2 n c2] w fun e w' => e = .returned (.bool true) ∧ ∃ d, w' = w.drewN d := by
  have HX : Hid _ := hx
  have HY : Hid _ := hy
  have H1 : Hid _ := h1
  have H2 : Hid _ := h2
  have BX : Hid _ := bx
  have BY : Hid _ := byy
  have HK : Hid _ := hk
  clear hx hy h1 h2 bx byy hk
  go_enter Try.func7, Try.ntmps7
  go_wp2
  go_loopw [5] (fun v wr => ∃ i d : Nat, i ≤ n ∧ v = .int .i64 i ∧ wr = w.drewN d) (fun v _ => n - (intOf v).toNat)
  case atStart => exact ⟨0, 0, by omega, rfl, rfl⟩
  case round =>
    obtain ⟨i, d, hi, rfl, hd⟩ := hrel
    by_cases hlt : i < n
    · have e1 : i < xs.length := by rw [HX.out]; exact hlt
      have e2 : i < ys.length := by rw [HY.out]; exact hlt
      obtain rfl := H1.out.addr (by omega)
      obtain rfl := H2.out.addr (by omega)
      have q1 := cellD (fltAt H1.out i e1) d
      have q2 := cellD (fltAt H2.out i e2) d
      rw [← hd] at q1 q2
      have C1 : Hid _ := fun w => same_val (at0 xs i) (at0 ys i) w (BX.out _ (memAt e1)) (BY.out _ (memAt e2)) (HK.out i hlt)
      have HD : Hid _ := hd
      clear hd e1 e2
      generalize at0 xs i = v1 at *
      generalize at0 ys i = v2 at *
      go_wp2
      go_quiet ((go_at_call 17; exact Calls.quiet_of_same (C1.out _)))
      go_wp2
      go_roundw
      case rel => exact ⟨i + 1, d + nq, by omega, by go_num, by rw [HD.out, World.drewN_drewN]⟩
      case measure => simp [intOf]; omega
    · have hge : n ≤ i := by omega
      clear hlt
      go_wp2
      go_ret
      exact ⟨rfl, d, by first | rfl | exact hd⟩

end Go.Proofs.Ytlgfhmedenlbcab
