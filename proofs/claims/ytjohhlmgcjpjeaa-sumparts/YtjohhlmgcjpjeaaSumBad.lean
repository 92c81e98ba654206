/- The contract of sum.Bad. -/
import Derived.Test.YtjohhlmgcjpjeaaSumRow
import Derived.Deep.QuietTactic
import Derived.BigQuiet
namespace Go.Proofs.Ytjohhlmgcjpjeaa
open Go.RowKit

/-- The first place from k on at which two lists are unlike; -1 if there is none. -/
def badN : Nat → List Int → List Int → Int
  | _, [], [] => -1
  | k, z :: zs, l :: ls => if z = l then badN (k + 1) zs ls else k
  | k, [], _ :: _ => k
  | k, _ :: _, [] => k

theorem badN_eq (k : Nat) (zs ls : List Int) (h1 : k < zs.length) (h2 : k < ls.length) (h : zs[k] = ls[k]) : badN k (zs.drop k) (ls.drop k) = badN (k + 1) (zs.drop (k + 1)) (ls.drop (k + 1)) := by
  rw [List.drop_eq_getElem_cons h1, List.drop_eq_getElem_cons h2, badN, if_pos h]
theorem badN_ne (k : Nat) (zs ls : List Int) (h1 : k < zs.length) (h2 : k < ls.length) (h : ¬ zs[k] = ls[k]) : badN k (zs.drop k) (ls.drop k) = k := by
  rw [List.drop_eq_getElem_cons h1, List.drop_eq_getElem_cons h2, badN, if_neg h]
theorem badN_end (k : Nat) (zs ls : List Int) (h1 : zs.length ≤ k) (h2 : ls.length ≤ k) : badN k (zs.drop k) (ls.drop k) = -1 := by
  rw [List.drop_of_length_le h1, List.drop_of_length_le h2, badN]
theorem badN_left (k : Nat) (zs ls : List Int) (h1 : k < zs.length) (h2 : ls.length ≤ k) : badN k (zs.drop k) (ls.drop k) = k := by
  rw [List.drop_eq_getElem_cons h1, List.drop_of_length_le h2, badN]
theorem badN_right (k : Nat) (zs ls : List Int) (h1 : zs.length ≤ k) (h2 : k < ls.length) : badN k (zs.drop k) (ls.drop k) = k := by
  rw [List.drop_of_length_le h1, List.drop_eq_getElem_cons h2, badN]

theorem Ints.cellAt {w : World} {k : IntKind} {a : Option Addr} {b off : Nat} {zs : List Int} (h : Ints w k a b off zs) (j : Nat) (hj : j < zs.length) (z : Int) (hz : zs[j] = z) : w.cell? ⟨b, off + j, none⟩ = some (.int k z) := by
  rw [h.cell j hj, hz]

set_option maxRecDepth 100000 in
set_option maxHeartbeats 1000000 in
theorem bad_any (s : ByteArray) (a : Option Addr) (b off cap : Nat) (ls : List Int) (w : World) (hs : s.size ≤ 140737488355328) (hl : ls.length ≤ maxLen) (hI : Ints w .u32 a b off ls) :
    Calls Try.prog 15 #[.string s, .slice a ls.length cap] w fun e w' => e = .returned (.int .i64 (badN 0 (chunkZ s) ls)) ∧ Below w.heap.size w w' := by
  obtain ⟨n, hn⟩ : ∃ n, (s.size + 7) / 8 = n := ⟨_, rfl⟩
  have hn44 : n ≤ 17592186044417 := by omega
  have hZ : (chunkZ s).length = n := by rw [chunkZ_len, hn]
  obtain ⟨L, hL⟩ : ∃ L, ls.length = L := ⟨_, rfl⟩
  obtain ⟨B, hB⟩ : ∃ B, badN 0 (chunkZ s) ls = B := ⟨_, rfl⟩
  have hl63 : L ≤ 9223372036854775807 := by unfold maxLen at hl; omega
  rw [hL, hB]
  go_enter Try.func15, Try.ntmps15
  go_wp2_with fail
  refine (chunkCount_any s _ hs).mono ?_
  rintro e w0 ⟨rfl, rfl⟩
  rename World => w
  rw [hn]
  have HN : Hid _ := hn
  have HL : Hid _ := hL
  have HB : Hid _ := hB
  have HZ : Hid _ := hZ
  have HI : Hid _ := hI
  clear hn hL hB hZ hI hl
  by_cases hmin : n ≤ L
  all_goals
    go_wp2
    go_loopw [15] (fun c wr => ∃ k : Nat, k ≤ n ∧ k ≤ L ∧ c = .int .i64 k ∧ badN k ((chunkZ s).drop k) (ls.drop k) = B ∧ Below w.heap.size w wr) (fun c _ => n - (intOf c).toNat)
    case atStart => exact ⟨0, by omega, by omega, rfl, HB.out, Below.refl _ _⟩
    case round =>
      obtain ⟨k, hkn, hkl, rfl, hk, hbel⟩ := hrel
      by_cases hlt : k < n ∧ k < L
      · obtain ⟨hkn', hkl'⟩ := hlt
        have hkz : k < (chunkZ s).length := by rw [HZ.out]; exact hkn'
        have hkL : k < ls.length := by rw [HL.out]; exact hkl'
        have hkc : k < (s.size + 7) / 8 := by rw [HN.out]; exact hkn'
        obtain rfl := HI.out.addr (by omega)
        have hcell := (HI.out.below hbel).cell k hkL
        have hz := chunkZ_at s k hkz
        have hc0 := chunkSum_nonneg s k
        have hc1 := chunkSum_lt s k
        by_cases heq : chunkSum s k = ls[k]
        · have HK : Hid (badN (k + 1) ((chunkZ s).drop (k + 1)) (ls.drop (k + 1)) = B) := by rw [← badN_eq k _ _ hkz hkL (hz.trans heq)]; exact hk
          rw [← heq] at hcell
          clear hk hz heq
          generalize hS : chunkSum s k = S at *
          go_wp2
          go_quiet ((first
            | (go_at_call 22; exact Calls.quiet_of_same (chunkAt_any s k _ hs hkc))
            | (go_at_call 13; exact Calls.quiet_of_same (hS ▸ sum_chunk s k _))))
          go_wp2
          go_roundw
          case rel => exact ⟨k + 1, by omega, by omega, by go_num, HK.out, below_drewN hbel _⟩
          case measure => simp [intOf]; omega
        · have HK : Hid ((k : Int) = B) := by rw [← hk]; exact (badN_ne k _ _ hkz hkL (fun h => heq (hz.symm.trans h))).symm
          clear hk hz
          generalize hS : chunkSum s k = S at *
          generalize ls[k] = T at *
          go_wp2
          go_quiet ((first
            | (go_at_call 22; exact Calls.quiet_of_same (chunkAt_any s k _ hs hkc))
            | (go_at_call 13; exact Calls.quiet_of_same (hS ▸ sum_chunk s k _))))
          go_wp2
          go_ret
          exact ⟨ret_int HK.out, below_drewN hbel _⟩
      · by_cases hne : n = L
        · have HK : Hid ((-1 : Int) = B) := by rw [← hk]; exact (badN_end k _ _ (by rw [HZ.out]; omega) (by rw [HL.out]; omega)).symm
          clear hk
          go_wp2
          all_goals go_ret
          all_goals exact ⟨ret_int HK.out, hbel⟩
        · have HK : Hid ((k : Int) = B) := by
            rw [← hk]
            by_cases hk2 : k < n
            · exact (badN_left k _ _ (by rw [HZ.out]; omega) (by rw [HL.out]; omega)).symm
            · exact (badN_right k _ _ (by rw [HZ.out]; omega) (by rw [HL.out]; omega)).symm
          have hM : k = n ∨ k = L := by omega
          have HM : Hid (k = n ∨ k = L) := hM
          clear hM
          clear hk
          go_wp2
          go_ret
          refine ⟨ret_int (Eq.trans ?_ HK.out), hbel⟩
          rcases HM.out with h | h <;> omega

end Go.Proofs.Ytjohhlmgcjpjeaa
