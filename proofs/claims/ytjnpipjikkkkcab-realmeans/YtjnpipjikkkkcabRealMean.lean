/- The contract of real.Mean. -/
import Derived.Test.YtjnpipjikkkkcabRealMeanM
import Derived.Test.YtjnpipjikkkkcabRealSh
import Derived.Test.YtjnpipjikkkkcabRealRow
namespace Go.Proofs.Ytjnpipjikkkkcab
open Go.RowKit

set_option maxRecDepth 100000 in
set_option maxHeartbeats 1000000 in
theorem mean_val (a : Option Addr) (b off cap n q : Nat) (xs : List Nat) (w : World) (hn : xs.length = n) (hl : n ≤ maxLen) (hI : Flts w a b off xs) (hx : ∀ x ∈ xs, x < 18446744073709551616) (hq : meanB xs = q) :
    Calls Try.prog 10 #[.slice a n cap] w fun e w' => e = .returned (.float .f64 q) ∧ w' = w := by
  have hl63 : n ≤ 9223372036854775807 := by unfold maxLen at hl; omega
  have HN : Hid _ := hn
  have HI : Hid _ := hI
  have HX : Hid _ := hx
  have HQ : Hid _ := hq
  clear hn hl hI hx hq
  go_enter Try.func10, Try.ntmps10
  go_wp2
  go_loopw [3, 4, 9] (fun s c i wr => ∃ k S C : Nat, k ≤ n ∧ i = .int .i64 k ∧ s = .float .f64 S ∧ c = .int .i64 C ∧ mSum (xs.take k) = (S, C) ∧ wr = w) (fun _ _ i _ => n - (intOf i).toNat)
  case atStart => exact ⟨0, 0, 0, by omega, rfl, rfl, rfl, rfl, rfl⟩
  case round =>
    obtain ⟨k, S, C, hkn, rfl, rfl, rfl, hm, rfl⟩ := hrel
    have hok := mSum_ok (xs.take k)
    rw [hm] at hok
    obtain ⟨ok1, ok2, ok3⟩ := hok
    have hC : C ≤ k := by rw [List.length_take, HN.out] at ok3; simp at ok3; omega
    clear ok3
    by_cases hlt : k < n
    · have hk : k < xs.length := by rw [HN.out]; exact hlt
      obtain rfl := HI.out.addr (by omega)
      have hc1 := HI.out.cell k hk
      have hnext := mSum_next xs k hk
      rw [hm] at hnext
      have hxk := HX.out xs[k] (List.getElem_mem hk)
      generalize xs[k] = x at *
      have HM : Hid _ := hnext
      clear hnext hm
      cases hxn : isN x
      · have C1 : Hid _ := fun w => noNum_val x _ w hxn
        have h1 := nan_no hxn
        by_cases hi : rg x = infR
        · have C2 : Hid _ := fun w => isInf0_val x true w hxk (decide_eq_true hi)
          have HM2 : Hid (mSum (xs.take (k + 1)) = (S, C)) := by rw [HM.out]; unfold mStep; rw [if_neg (by omega)]; exact rfl
          clear HM hxk hxn h1 hi ok1 ok2
          go_wp2_with (first
            | (go_at_call 15; refine (C1.out _).mono ?_; rintro e w1 ⟨rfl, rfl⟩)
            | (go_at_call 17; refine (C2.out _).mono ?_; rintro e w1 ⟨rfl, rfl⟩))
          go_roundw
          case rel => exact ⟨k + 1, S, C, by omega, by go_num, rfl, rfl, HM2.out, by trivial⟩
          case measure => simp [intOf]; omega
        · have C2 : Hid _ := fun w => isInf0_val x false w hxk (decide_eq_false hi)
          obtain ⟨r, e, -, -⟩ := add_some (s := S) (x := x) ok1 (by omega)
          have hop := hop_any .add S x r e
          have HM2 : Hid (mSum (xs.take (k + 1)) = (r, C + 1)) := by rw [HM.out]; unfold mStep; rw [if_pos (by omega), e]; rfl
          clear HM hxk hxn h1 hi ok1 ok2 e
          go_wp2_with (first
            | (go_at_call 15; refine (C1.out _).mono ?_; rintro e w1 ⟨rfl, rfl⟩)
            | (go_at_call 17; refine (C2.out _).mono ?_; rintro e w1 ⟨rfl, rfl⟩))
          go_roundw
          case rel => exact ⟨k + 1, r, C + 1, by omega, by go_num, rfl, by go_num, HM2.out, by trivial⟩
          case measure => simp [intOf]; omega
      · have C1 : Hid _ := fun w => noNum_val x _ w hxn
        have h1 := nan_yes hxn
        have HM2 : Hid (mSum (xs.take (k + 1)) = (S, C)) := by rw [HM.out]; unfold mStep; rw [if_neg (by omega)]; exact rfl
        clear HM hxk hxn h1 ok1 ok2
        go_wp2_with (go_at_call 15; refine (C1.out _).mono ?_; rintro e w1 ⟨rfl, rfl⟩)
        go_roundw
        case rel => exact ⟨k + 1, S, C, by omega, by go_num, rfl, rfl, HM2.out, by trivial⟩
        case measure => simp [intOf]; omega
    · have hq : mEnd S C = q := by
        have : meanB xs = mEnd S C := by
          unfold meanB
          rw [List.take_of_length_le (by rw [HN.out]; omega)] at hm
          rw [hm]
        rw [← this]; exact HQ.out
      have HC1 : Hid _ := fun w => noNum_val S _ w ok1
      clear hm HX HQ HI HN
      rcases end_cases S C q ok2 ok1 (by omega) hq with ⟨h0, e1⟩ | ⟨h0, e1, e2⟩ | ⟨h0, e1, e2⟩ | ⟨h0, h1, e⟩
      · subst e1
        subst h0
        clear ok1 ok2 hq
        go_wp2
        go_ret
        exact ⟨rfl, rfl⟩
      · subst e2
        subst e1
        have C2 : Hid _ := fun w => isInf0_val 18442240474082181120 true w (by decide) (by decide)
        clear ok1 ok2 hq
        go_wp2_with (first
          | (go_at_call 15; refine (HC1.out _).mono ?_; rintro e w1 ⟨rfl, rfl⟩)
          | (go_at_call 17; refine (C2.out _).mono ?_; rintro e w1 ⟨rfl, rfl⟩)
          | (go_at_call 13; refine (copysign_min _).mono ?_; rintro e w1 ⟨rfl, rfl⟩))
        go_ret
        exact ⟨rfl, rfl⟩
      · subst e2
        subst e1
        have C2 : Hid _ := fun w => isInf0_val 9218868437227405312 true w (by decide) (by decide)
        clear ok1 ok2 hq
        go_wp2_with (first
          | (go_at_call 15; refine (HC1.out _).mono ?_; rintro e w1 ⟨rfl, rfl⟩)
          | (go_at_call 17; refine (C2.out _).mono ?_; rintro e w1 ⟨rfl, rfl⟩)
          | (go_at_call 13; refine (copysign_max _).mono ?_; rintro e w1 ⟨rfl, rfl⟩))
        go_ret
        exact ⟨rfl, rfl⟩
      · have hop := hop_any .quo S _ q e
        have C2 : Hid _ := fun w => isInf0_val S false w ok2 (decide_eq_false (by omega))
        clear e ok1 ok2 hq h1
        go_wp2_with (first
          | (go_at_call 15; refine (HC1.out _).mono ?_; rintro e w1 ⟨rfl, rfl⟩)
          | (go_at_call 17; refine (C2.out _).mono ?_; rintro e w1 ⟨rfl, rfl⟩))
        go_ret
        exact ⟨rfl, rfl⟩

end Go.Proofs.Ytjnpipjikkkkcab
