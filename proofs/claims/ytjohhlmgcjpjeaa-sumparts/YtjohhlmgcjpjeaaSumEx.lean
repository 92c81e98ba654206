/- The contracts of tabulariumlaw02.sums and of the examples ahead of each statement of layer 2. -/
import Derived.Test.YtjohhlmgcjpjeaaSumBad
namespace Go.Proofs.Ytjohhlmgcjpjeaa
open Go.RowKit

theorem ret_bool {a : Bool} (h : a = true) : Ending.returned (.bool a) = .returned (.bool true) := by rw [h]

theorem list_take_eq {zs ls : List Int} (hl : zs.length = ls.length) {k : Nat} (hk : ls.length ≤ k) (h : zs.take k = ls.take k) : zs = ls := by
  rwa [List.take_of_length_le (by omega), List.take_of_length_le hk] at h
theorem take_eq_next {zs ls : List Int} {k : Nat} (h1 : k < zs.length) (h2 : k < ls.length) (h : zs.take k = ls.take k) (e : zs[k] = ls[k]) : zs.take (k + 1) = ls.take (k + 1) := by
  rw [List.take_succ_eq_append_getElem h1, List.take_succ_eq_append_getElem h2, h, e]

set_option maxRecDepth 100000 in
set_option maxHeartbeats 1000000 in
theorem sums_same (a a' : Option Addr) (b off cap b' off' cap' n n' : Nat) (zs ls : List Int) (w : World) (hn : zs.length = n) (hn' : ls.length = n') (hl : n ≤ maxLen) (hI : Ints w .u32 a b off zs) (hJ : Ints w .u32 a' b' off' ls) (he : zs = ls) :
    Calls Try.prog 11 #[.slice a n cap, .slice a' n' cap'] w fun e w' => e = .returned (.bool true) ∧ Below w.heap.size w w' := by
  subst he
  obtain rfl : n = n' := by omega
  have hl63 : n ≤ 9223372036854775807 := by unfold maxLen at hl; omega
  have HN : Hid _ := hn
  clear hn hn' hl
  have HI : Hid _ := hI
  have HJ : Hid _ := hJ
  clear hI hJ
  go_enter Try.func11, Try.ntmps11
  go_wp2
  go_loopw [5] (fun c wr => ∃ k : Nat, k ≤ n ∧ c = .int .i64 k ∧ Below w.heap.size w wr) (fun c _ => n - (intOf c).toNat)
  case atStart => exact ⟨0, by omega, rfl, Below.refl _ _⟩
  case round =>
    obtain ⟨k, hkn, rfl, hbel⟩ := hrel
    by_cases hlt : k < n
    · have hk : k < zs.length := by rw [HN.out]; exact hlt
      obtain rfl := HI.out.addr (by omega)
      obtain rfl := HJ.out.addr (by omega)
      have hc1 := (HI.out.below hbel).cell k hk
      have hc2 := (HJ.out.below hbel).cell k hk
      generalize zs[k] = Z at *
      go_wp2
      go_quiet (fail)
      go_wp2
      go_roundw
      case rel => exact ⟨k + 1, by omega, by go_num, below_drewN hbel _⟩
      case measure => simp [intOf]; omega
    · go_wp2
      go_ret
      exact ⟨rfl, hbel⟩

theorem ex_sum1 : sumN [49, 50, 51, 52, 53, 54, 55, 56, 57] = 3421780262 := by decide +kernel
theorem ex_sum2 : sumN [] = 0 := by decide +kernel
theorem ex_bad1 : badN 0 (chunkZ ⟨#[97, 98, 99, 100, 101, 102, 103, 104, 105]⟩) (chunkZ ⟨#[97, 98, 99, 100, 101, 102, 103, 104]⟩) = 1 := by decide +kernel
theorem ex_bad2 : badN 0 (chunkZ ⟨#[97, 98, 99]⟩) (chunkZ ⟨#[97, 98, 99]⟩) = -1 := by decide +kernel

theorem bad_val (s : ByteArray) (a : Option Addr) (b off cap n : Nat) (ls : List Int) (B : Int) (w : World) (hs : s.size ≤ 140737488355328) (hn : ls.length = n) (hl : n ≤ maxLen) (hI : Ints w .u32 a b off ls) (hB : badN 0 (chunkZ s) ls = B) :
    Calls Try.prog 15 #[.string s, .slice a n cap] w fun e w' => e = .returned (.int .i64 B) ∧ Below w.heap.size w w' := by
  subst hB; subst hn; exact bad_any s a b off cap ls w hs hl hI

/-- sum.Chunks, its answer opened. -/
theorem chunks_val (s : ByteArray) (w : World) (hs : s.size ≤ 140737488355328) :
    Calls Try.prog 10 #[.string s] w fun e w' => ∃ a n cap b, e = .returned (.slice a n cap) ∧ (chunkZ s).length = n ∧ n ≤ 17592186044417 ∧ Ints w' .u32 a b 0 (chunkZ s) ∧ Below w.heap.size w w' := by
  refine (chunks_any s w hs).mono ?_
  rintro e w' ⟨g, n, rfl, hown, hb⟩
  obtain ⟨h1, a, cap, b, h2, h3, _⟩ := own_ints hown
  have hl := chunkZ_len s
  exact ⟨a, n, cap, b, by rw [h2, ← h1], h1.symm, by omega, h3, hb⟩

set_option maxRecDepth 100000 in
set_option maxHeartbeats 1000000 in
theorem examples2_any (w : World) : Calls Try.prog 9 #[] w fun e w' => e = .returned (.bool true) ∧ Below w.heap.size w w' := by
  go_enter Try.func9, Try.ntmps9
  go_wp2_with fail
  refine (sum_nat ⟨#[49, 50, 51, 52, 53, 54, 55, 56, 57]⟩ _ _ (by decide) ex_sum1).mono ?_
  rintro e w0 ⟨rfl, rfl⟩
  go_wp2_with fail
  refine (sum_nat ⟨#[]⟩ _ _ (by decide) ex_sum2).mono ?_
  rintro e w1 ⟨rfl, rfl⟩
  go_wp2_with fail
  refine (chunks_val ⟨#[97, 98, 99, 100, 101, 102, 103, 104]⟩ _ (by decide)).mono ?_
  rintro e w2 ⟨a, n, cap, b, rfl, h1, h2, h3, b1⟩
  go_wp2_with fail
  refine (bad_val ⟨#[97, 98, 99, 100, 101, 102, 103, 104, 105]⟩ a b 0 cap n _ 1 _ (by decide) h1 (by unfold maxLen; omega) h3 ex_bad1).mono ?_
  rintro e w3 ⟨rfl, b2⟩
  clear h1 h2 h3
  go_wp2_with fail
  refine (chunks_val ⟨#[97, 98, 99]⟩ _ (by decide)).mono ?_
  rintro e w4 ⟨a', n', cap', b', rfl, h1, h2, h3, b3⟩
  go_wp2_with fail
  refine (bad_val ⟨#[97, 98, 99]⟩ a' b' 0 cap' n' _ (-1) _ (by decide) h1 (by unfold maxLen; omega) h3 ex_bad2).mono ?_
  rintro e w5 ⟨rfl, b4⟩
  clear h1 h2 h3
  go_wp2
  go_ret
  exact ⟨rfl, bel_trans (bel_trans (bel_trans b1 b2) b3) b4⟩

end Go.Proofs.Ytjohhlmgcjpjeaa
