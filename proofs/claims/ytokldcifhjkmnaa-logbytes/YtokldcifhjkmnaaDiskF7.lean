/- The contracts of disk.cut and disk.Crash. -/
import Derived.Test.YtokldcifhjkmnaaDiskF6
namespace Go.Proofs.Ytokldcifhjkmnaa
open Go.RowKit

set_option maxRecDepth 100000 in
set_option maxHeartbeats 400000 in
theorem cut_row (g L c sy e kn : Nat) (k : Int) (w : World) (hL : L ≤ 400000) (hs : sy ≤ L) (hc : L ≤ c) (hcm : c ≤ maxLen) (hk : -9223372036854775808 ≤ k ∧ k ≤ 9223372036854775807) (hn : keepN k = kn) (he : sy + kn % (L - sy + 1) = e) :
    Calls Try.prog 55 #[.agg #[.slice (some ⟨g, 0, none⟩) L c, .int .i64 (sy : Int)], .int .i64 k] w fun x w' => x = .returned (.agg #[.slice (some ⟨g, 0, none⟩) e c, .int .i64 (e : Int)]) ∧ Below w.heap.size w w' := by
  have hlt := Nat.mod_lt kn (show 0 < L - sy + 1 by omega)
  have heL : e ≤ L := by omega
  have hcm2 : c ≤ 9223372036854775807 := by unfold maxLen at hcm; omega
  obtain ⟨m, hm⟩ : ∃ m, L - sy = m := ⟨_, rfl⟩
  have hD : (L : Int) - (sy : Int) = (m : Int) := by omega
  rw [hm] at hlt he
  obtain ⟨Q, hQ⟩ : ∃ Q, kn % (m + 1) = Q := ⟨_, rfl⟩
  rw [hQ] at hlt he
  have hr1 : (kn : Int).tmod ((m : Int) + 1) = (Q : Int) := by
    rw [Int.tmod_eq_emod_of_nonneg (by omega), ← hQ]; rfl
  have hr2 : (kn : Int) % ((m : Int) + 1) = (Q : Int) := by rw [← hQ]; rfl
  have hqe : (sy : Int) + (Q : Int) = (e : Int) := by omega
  have heL2 : e ≤ L := heL
  have hm4 : m ≤ 400000 := by omega
  clear hcm hQ hm he
  unfold keepN at hn
  by_cases hneg : k < 0
  · rw [if_pos hneg] at hn
    have hkk : -(k + 1) = (kn : Int) := by omega
    go_enter Try.func55, Try.ntmps55
    go_wp2
    go_region
    all_goals
      go_wp2
      refine bodyPost_ret (results_cell_row (P := Try.prog) rfl _ _ (w.heap.size + 1) 72 #[.slice (some ⟨g, 0, none⟩) e c, .int .i64 (e : Int)] (0, 0) _ rfl (heap_alloc2_new w _ _) Try.underlying72 rfl (by kernel_rfl)) rfl ⟨rfl, ((((Below.refl _ w).alloc (Nat.le_refl _) _).alloc (by simp) _).drew)⟩
  · rw [if_neg hneg] at hn
    obtain rfl : k = (kn : Int) := by omega
    clear hn hk
    go_enter Try.func55, Try.ntmps55
    go_wp2
    go_region
    all_goals
      go_wp2
      refine bodyPost_ret (results_cell_row (P := Try.prog) rfl _ _ (w.heap.size + 1) 72 #[.slice (some ⟨g, 0, none⟩) e c, .int .i64 (e : Int)] (0, 0) _ rfl (heap_alloc2_new w _ _) Try.underlying72 rfl (by kernel_rfl)) rfl ⟨rfl, ((((Below.refl _ w).alloc (Nat.le_refl _) _).alloc (by simp) _).drew)⟩

set_option maxRecDepth 100000 in
set_option maxHeartbeats 400000 in
theorem cut_nil (kn : Nat) (k : Int) (w : World) (hk : -9223372036854775808 ≤ k ∧ k ≤ 9223372036854775807) (hn : keepN k = kn) :
    Calls Try.prog 55 #[.agg #[.slice none 0 0, .int .i64 0], .int .i64 k] w fun x w' => x = .returned (.agg #[.slice none 0 0, .int .i64 0]) ∧ Below w.heap.size w w' := by
  have hr1 : (kn : Int).tmod 1 = 0 := Int.tmod_one _
  unfold keepN at hn
  by_cases hneg : k < 0
  · rw [if_pos hneg] at hn
    have hkk : -(k + 1) = (kn : Int) := by omega
    go_enter Try.func55, Try.ntmps55
    go_wp2
    go_region
    all_goals
      go_wp2
      refine bodyPost_ret (results_cell_row (P := Try.prog) rfl _ _ (w.heap.size + 1) 72 #[.slice none 0 0, .int .i64 0] (0, 0) _ rfl (heap_alloc2_new w _ _) Try.underlying72 rfl (by kernel_rfl)) rfl ⟨rfl, ((((Below.refl _ w).alloc (Nat.le_refl _) _).alloc (by simp) _).drew)⟩
  · rw [if_neg hneg] at hn
    obtain rfl : k = (kn : Int) := by omega
    clear hn hk
    go_enter Try.func55, Try.ntmps55
    go_wp2
    go_region
    all_goals
      go_wp2
      refine bodyPost_ret (results_cell_row (P := Try.prog) rfl _ _ (w.heap.size + 1) 72 #[.slice none 0 0, .int .i64 0] (0, 0) _ rfl (heap_alloc2_new w _ _) Try.underlying72 rfl (by kernel_rfl)) rfl ⟨rfl, ((((Below.refl _ w).alloc (Nat.le_refl _) _).alloc (by simp) _).drew)⟩

end Go.Proofs.Ytokldcifhjkmnaa
