/- The contracts of slices.Grow (of nothing) and slices.Concat, at strings. -/
import Derived.Test.YtdcmhbodjmajcaaPathF5
namespace Go.Proofs.Ytdcmhbodjmajcaa
open Go.RowKit

set_option maxRecDepth 100000 in
set_option maxHeartbeats 1000000 in
theorem grow_val (n : Nat) (w : World) (hn : n ≤ 1000) :
    Calls Try.prog 82 #[.slice none 0 0, .int .i64 n] w fun e w' => (∃ v, e = .returned v ∧ w'.ownsRow w.heap.size 9 1 v 0 []) ∧ Below w.heap.size w w' := by
  obtain ⟨i0, hi, hz0, hz1, hz2⟩ := info_parts Try.infoStr
  by_cases h0 : n = 0
  · subst h0
    go_enter Try.func82, Try.ntmps82
    go_wp2
    go_ret
    exact ⟨⟨_, rfl, World.ownsRow_nil _ _ _ _⟩, Below.refl _ _⟩
  · have hrun := fun ty => Lib.run_append_nil_zeros (P := Try.prog) w 27 3 ty 9 i0 (.string ⟨#[]⟩) .i64 .i64 Try.underlying27 Try.underlying3 hi hz0 n (by omega) (by omega) (by omega) (by rw [hz2]; omega)
    have hge := grownCap_ge w n 0 9
    have hcm := grownCap_le_maxLen w n 0 9 (by unfold maxLen; omega)
    have hszz : (Builtin.zeroCells (Value.string ⟨#[]⟩).cells n ++ Builtin.zeroCells (Value.string ⟨#[]⟩).cells (grownCap w n 0 9 - n)).size = grownCap w n 0 9 * 1 := by
      rw [Array.size_append, size_zeroCells, size_zeroCells]
      show n * 1 + _ * 1 = _
      omega
    generalize grownCap w n 0 9 = c at *
    generalize Builtin.zeroCells (Value.string ⟨#[]⟩).cells n ++ Builtin.zeroCells (Value.string ⟨#[]⟩).cells (c - n) = cur at *
    have HO : Hid ((w.drew.alloc (.cells cur 9)).ownsRow w.heap.size 9 1 (.slice (some ⟨w.heap.size, 0, none⟩) 0 c) 0 []) := by
      refine ⟨by simp, .inr ⟨w.heap.size, c, cur, rfl, Nat.le_refl _, ?_, Nat.zero_le _, hcm, hszz, by simp⟩⟩
      show (w.heap.push _)[w.heap.size]? = _
      simp
    have HB : Hid (Below w.heap.size w (w.drew.alloc (.cells cur 9))) := (((Below.refl _ w).drew).alloc (Nat.le_refl _) _)
    have hcm2 : c ≤ 9223372036854775807 := by unfold maxLen at hcm; omega
    clear hszz hcm
    go_enter Try.func82, Try.ntmps82
    go_wp2_with (at_builtin; refine Lib.wpList_append_run _ rfl _ _ 27 3 rfl _ _ rfl rfl _ _ (hrun _) ?_)
    go_ret
    exact ⟨⟨_, rfl, HO.out⟩, HB.out⟩

/-- The lists of SS, the first k of them together. -/
def catS (SS : Nat → List ByteArray) : Nat → List ByteArray
  | 0 => []
  | k + 1 => catS SS k ++ SS k

set_option maxRecDepth 100000 in
set_option maxHeartbeats 1000000 in
theorem concat_any (g : Nat) (A : Nat → Option Addr) (N B F C : Nat → Nat) (SS : Nat → List ByteArray) (w : World)
    (hc : ∀ k, k < 2 → w.cell? ⟨g, k, none⟩ = some (.slice (A k) (N k) (C k))) (hS : ∀ k, k < 2 → Sl w (A k) (B k) (F k) (C k) (SS k)) (hN : ∀ k, k < 2 → (SS k).length = N k) (hl : ∀ k, k < 2 → N k ≤ 100) :
    Calls Try.prog 75 #[.slice (some ⟨g, 0, none⟩) 2 2] w fun e w' => (∃ v, e = .returned v ∧ w'.ownsRow w.heap.size 9 1 v (catS SS 2).length ((catS SS 2).map Value.string)) ∧ Below w.heap.size w w' := by
  obtain ⟨i0, hi, hz0, hz1, hz2⟩ := info_parts Try.infoStr
  have HC : Hid (∀ k, k < 2 → w.cell? ⟨g, k, none⟩ = some (.slice (A k) (N k) (C k))) := hc
  have HS : Hid (∀ k, k < 2 → Sl w (A k) (B k) (F k) (C k) (SS k)) := hS
  have HN : Hid (∀ k, k < 2 → (SS k).length = N k) := hN
  have HL : Hid (∀ k, k < 2 → N k ≤ 100) := hl
  clear hc hS hN hl
  have HT : Hid (∀ k, k ≤ 2 → (catS SS k).length ≤ 100 * k) := by
    intro k hk
    induction k with
    | zero => simp [catS]
    | succ k ih =>
      have h1 := HN.out k (by omega)
      have h2 := HL.out k (by omega)
      have h3 := ih (by omega)
      rw [catS, List.length_append]; omega
  go_enter Try.func75, Try.ntmps75
  go_wp2
  go_loop [3, 11] (fun s c => ∃ k : Nat, k ≤ 2 ∧ c = .int .i64 k ∧ s = .int .i64 (((catS SS k).length : Nat) : Int)) (fun _ c => 2 - (intOf c).toNat)
  case atStart => exact ⟨0, by omega, rfl, rfl⟩
  case round =>
    obtain ⟨k, hk, rfl, rfl⟩ := hrel
    have ht := HT.out k hk
    by_cases hlt : k < 2
    · have hc := HC.out k hlt
      have hl := HL.out k hlt
      have HE : Hid ((catS SS (k + 1)).length = (catS SS k).length + N k) := by show _ = _; rw [catS, List.length_append, HN.out k hlt]
      generalize (catS SS k).length = T at *
      generalize A k = Ak at *
      generalize N k = Nk at *
      generalize C k = Ck at *
      go_wp2
      go_round
      case rel => exact ⟨k + 1, by omega, by go_num, by rw [HE.out]; go_num⟩
      case measure => simp [intOf]; omega
    · have hk2 : k = 2 := by omega
      subst hk2
      have HTT : Hid ((catS SS 2).length ≤ 1000) := by show _ ≤ _; omega
      obtain ⟨T, hT⟩ : ∃ T, (catS SS 2).length = T := ⟨_, rfl⟩
      rw [hT] at ht ⊢
      have HTe : Hid ((catS SS 2).length = T) := hT
      clear hT
      go_wp2_with (go_at_call 82; refine (grow_val T _ (by omega)).mono ?_; rintro e w1 ⟨⟨v0, rfl, ho0⟩, b1⟩)
      go_loopw [6, 27] (fun v c wr => ∃ k : Nat, k ≤ 2 ∧ c = .int .i64 k ∧ wr.ownsRow w.heap.size 9 1 v (catS SS k).length ((catS SS k).map Value.string) ∧ Below w.heap.size w wr) (fun _ c _ => 2 - (intOf c).toNat)
      case atStart => exact ⟨0, by omega, rfl, ho0, b1⟩
      case round =>
        obtain ⟨k, hk, rfl, hown, hbel⟩ := hrel
        have hsz := hbel.size
        by_cases hlt : k < 2
        · have hc0 := HC.out k hlt
          have hg : g < w.heap.size := World.block_lt_of_cell? _ _ hc0
          have hc : wr.cell? ⟨g, k, none⟩ = some (.slice (A k) (N k) (C k)) := (hbel.cell (p := ⟨g, k, none⟩) hg).trans hc0
          have hl := HL.out k hlt
          have hSl := (HS.out k hlt).below hbel
          have hNk := HN.out k hlt
          have htk := HT.out k (by omega)
          clear hc0
          go_wp2_with (at_builtin; refine wpList_append_strs _ rfl _ _ 27 rfl w.heap.size 9 i0 Try.underlying27 hi hz0 hz1 hz2 _ _ _ rfl hown (A k) (B k) (F k) (C k) (SS k) (N k) hNk rfl hSl.strs hSl.nil (by omega) hsz ?_; intro v4 w4 o4 g4)
          have o5 : w4.ownsRow w.heap.size 9 1 v4 (catS SS (k + 1)).length ((catS SS (k + 1)).map Value.string) := by
            rw [catS, List.map_append, List.length_append, hNk]; exact o4
          have bel4 : Below w.heap.size w w4 := hbel.grown g4 hsz (fun j hj => (hown.lt j hj).1)
          clear o4 g4 hown hbel hSl hc
          go_wp2
          go_roundw
          case rel => exact ⟨k + 1, by omega, by go_num, o5, bel4⟩
          case measure => simp [intOf]; omega
        · have hk2 : k = 2 := by omega
          subst hk2
          go_wp2
          go_ret
          exact ⟨⟨_, rfl, hown⟩, hbel⟩

end Go.Proofs.Ytdcmhbodjmajcaa
