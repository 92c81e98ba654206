/- The contracts of tabulariumref02.Chunks and tabulariumref02.Bad. -/
import Derived.Test.YtjohhlmgcjpjeaaSumBad
namespace Go.Proofs.Ytjohhlmgcjpjeaa
open Go.RowKit

theorem refSum_chunk (X s : ByteArray) (i : Nat) (S : Int) (w : World) (hX : X = chunkS s i) (hS : chunkSum s i = S) :
    Calls Try.prog 14 #[.string X] w fun e w' => e = .returned (.int .u32 S) ∧ w' = w := by
  subst hX
  subst hS
  exact refSum_any (chunkS s i) w (Nat.le_trans (chunkS_size s i) (by unfold maxLen; omega))

theorem chunkZ_take (s : ByteArray) (k : Nat) (h : k < (s.size + 7) / 8) : (chunkZ s).take (k + 1) = (chunkZ s).take k ++ [chunkSum s k] := by
  have hk : k < (chunkZ s).length := by rw [chunkZ_len]; exact h
  rw [List.take_succ_eq_append_getElem hk, chunkZ_at]

set_option maxRecDepth 100000 in
set_option maxHeartbeats 1000000 in
theorem refChunks_any (s : ByteArray) (w : World) (hs : s.size ≤ 140737488355328) :
    Calls Try.prog 12 #[.string s] w fun e w' => ∃ v n, e = .returned v ∧ w'.ownsRow w.heap.size 26 1 v n (intCells .u32 (chunkZ s)) ∧ Below w.heap.size w w' := by
  obtain ⟨i0, hi, hz0, hz1, hz2⟩ := info_parts Try.infoU32
  go_enter Try.func12, Try.ntmps12
  go_wp2
  go_loopw [3, 4] (fun v c wr => ∃ k : Nat, k ≤ (s.size + 7) / 8 ∧ c = .int .i64 ((k * 8 : Nat) : Int) ∧ wr.ownsRow w.heap.size 26 1 v k (intCells .u32 ((chunkZ s).take k)) ∧ Below w.heap.size w wr) (fun _ c _ => s.size - (intOf c).toNat)
  case atStart => exact ⟨0, by omega, rfl, World.ownsRow_nil _ _ _ _, Below.refl _ _⟩
  case round =>
    obtain ⟨k, hkn, rfl, hown, hbel⟩ := hrel
    have hsz := hbel.size
    by_cases hlt : k * 8 < s.size
    · have hkl : k < (s.size + 7) / 8 := by omega
      have hT := chunkZ_take s k hkl
      have hc0 := chunkSum_nonneg s k
      have hc1 := chunkSum_lt s k
      generalize hS : chunkSum s k = S at *
      have HT : Hid _ := hT
      have HS : Hid _ := hS
      clear hT hS
      by_cases hmin : s.size ≤ k * 8 + 8
      all_goals
        go_wp2_with fail
        refine (refSum_chunk _ s k S _ ?hX HS.out).mono ?_
        case hX =>
          unfold chunkS
          congr 1
          omega
        rintro e w' ⟨rfl, rfl⟩
        go_wp2_with (at_builtin; refine wpList_append_own _ rfl _ _ 22 rfl w.heap.size 26 i0 (.int .u32 0) 1 4 Try.underlying22 hi hz0 hz1 hz2 rfl (by decide) _ _ _ rfl (hown.alloc _) ⟨w'.heap.size, 0, none⟩ 1 1 [.int .u32 S] rfl rfl ?c1 ?c2 ?c3 ?c4 ?c5 ?_)
        case c1 =>
          intro j u hj
          match j, hj with
          | 0, hj => simp at hj; subst hj; simp [Addr.add]
        case c2 => intro u hu; simp at hu; subst hu; rfl
        case c3 => unfold maxLen; omega
        case c4 => omega
        case c5 => simp; omega
        · intro v' w2 hown' hgrow _
          have hown2 : w2.ownsRow w.heap.size 26 1 v' (k + 1) (intCells .u32 ((chunkZ s).take (k + 1))) := by
            rw [HT.out]; simpa [intCells] using hown'
          have hbel2 : Below w.heap.size w w2 := by
            refine (hbel.alloc hsz _).grown hgrow (by simp; omega) ?_
            intro k hk
            exact (hown.lt k hk).1
          clear hown' hgrow hown hbel HT
          go_wp2
          go_roundw
          case rel => exact ⟨k + 1, by omega, by go_num, hown2, hbel2⟩
          case measure => simp [intOf]; omega
    · rw [List.take_of_length_le (by rw [chunkZ_len]; omega)] at hown
      have HO : Hid _ := hown
      clear hown
      go_wp2
      go_ret
      exact ⟨_, _, rfl, HO.out, hbel⟩

/-- Its answer opened. -/
theorem refChunks_val (s : ByteArray) (w : World) (hs : s.size ≤ 140737488355328) :
    Calls Try.prog 12 #[.string s] w fun e w' => ∃ a n cap b, e = .returned (.slice a n cap) ∧ (chunkZ s).length = n ∧ n ≤ 17592186044417 ∧ Ints w' .u32 a b 0 (chunkZ s) ∧ Below w.heap.size w w' := by
  refine (refChunks_any s w hs).mono ?_
  rintro e w' ⟨v, n, rfl, hown, hb⟩
  obtain ⟨h1, a, cap, b, h2, h3, _⟩ := own_ints hown
  have hl := chunkZ_len s
  exact ⟨a, n, cap, b, by rw [h2, ← h1], h1.symm, by omega, h3, hb⟩

set_option maxRecDepth 100000 in
set_option maxHeartbeats 1000000 in
theorem refBad_any (s : ByteArray) (a : Option Addr) (b off cap L : Nat) (ls : List Int) (B : Int) (w : World) (hs : s.size ≤ 140737488355328) (hL : ls.length = L) (hl : L ≤ maxLen) (hI : Ints w .u32 a b off ls) (hB : badN 0 (chunkZ s) ls = B) :
    Calls Try.prog 16 #[.string s, .slice a L cap] w fun e w' => e = .returned (.int .i64 B) ∧ Below w.heap.size w w' := by
  have hl63 : L ≤ 9223372036854775807 := by unfold maxLen at hl; omega
  have HL : Hid _ := hL
  have HB : Hid _ := hB
  have HI : Hid _ := hI
  clear hL hB hI hl
  go_enter Try.func16, Try.ntmps16
  go_wp2_with fail
  refine (refChunks_val s _ hs).mono ?_
  rintro e w0 ⟨a', n, cap', b', rfl, hZ, hn44, hJ, hb0⟩
  have hI0 := HI.out.below hb0
  have HZ : Hid _ := hZ
  have HI0 : Hid _ := hI0
  have HJ : Hid _ := hJ
  clear hZ hI0 hJ HI
  generalize hCZ : chunkZ s = cz at *
  go_wp2
  go_loopw [6] (fun c wr => ∃ k : Nat, (k ≤ n ∨ k ≤ L) ∧ c = .int .i64 k ∧ badN k (cz.drop k) (ls.drop k) = B ∧ Below w0.heap.size w0 wr) (fun c _ => n + L - (intOf c).toNat)
  case atStart => exact ⟨0, by omega, rfl, HB.out, Below.refl _ _⟩
  case round =>
    obtain ⟨k, hkm, rfl, hk, hbel⟩ := hrel
    by_cases hkn : k < n
    · by_cases hkl : k < L
      · have hkz : k < cz.length := by rw [HZ.out]; exact hkn
        have hkL : k < ls.length := by rw [HL.out]; exact hkl
        obtain rfl := HI0.out.addr (by omega)
        obtain rfl := HJ.out.addr (by omega)
        have hc1 := (HI0.out.below hbel).cell k hkL
        have hc2 := (HJ.out.below hbel).cell k hkz
        rw [Nat.zero_add] at hc2
        have hd1 : decide ((n : Int) ≤ (k : Int)) = false := by simpa using hkn
        have hd2 : decide ((L : Int) ≤ (k : Int)) = false := by simpa using hkl
        by_cases heq : cz[k] = ls[k]
        · have HK : Hid (badN (k + 1) (cz.drop (k + 1)) (ls.drop (k + 1)) = B) := by rw [← badN_eq k _ _ hkz hkL heq]; exact hk
          rw [← heq] at hc1
          generalize cz[k] = S at *
          clear hk heq
          go_wp2
          all_goals
            go_quiet (fail)
            go_wp2
            go_roundw
            case rel => exact ⟨k + 1, by omega, by go_num, HK.out, below_drewN hbel _⟩
            case measure => simp [intOf]; omega
        · have HK : Hid ((k : Int) = B) := by rw [← hk]; exact (badN_ne k _ _ hkz hkL heq).symm
          generalize cz[k] = S at *
          generalize ls[k] = T at *
          have hne : (S != T) = true := by simpa using heq
          clear hk
          go_wp2
          all_goals
            go_quiet (fail)
            go_wp2
            all_goals first
              | (go_ret; exact ⟨ret_int HK.out, bel_trans hb0 (below_drewN hbel _)⟩)
              | (exfalso; rename_i h; rw [hne] at h; exact absurd h.2 (by decide))
      · have HK : Hid ((k : Int) = B) := by rw [← hk]; exact (badN_left k _ _ (by rw [HZ.out]; exact hkn) (by rw [HL.out]; omega)).symm
        have hd1 : decide ((n : Int) ≤ (k : Int)) = false := by simpa using hkn
        have hd2 : decide ((L : Int) ≤ (k : Int)) = true := by simpa using hkl
        clear hk
        go_wp2
        all_goals
          go_quiet (fail)
          go_wp2
          go_ret
          exact ⟨ret_int HK.out, bel_trans hb0 (below_drewN hbel _)⟩
    · by_cases hkl : k < L
      · have HK : Hid ((k : Int) = B) := by rw [← hk]; exact (badN_right k _ _ (by rw [HZ.out]; omega) (by rw [HL.out]; exact hkl)).symm
        have hd1 : decide ((n : Int) ≤ (k : Int)) = true := by simpa using hkn
        have hd3 : decide (n ≤ k) = true := by simpa using hkn
        have hnk : n ≤ k := by omega
        clear hk
        go_wp2
        all_goals
          go_quiet (fail)
          go_wp2
          go_ret
          exact ⟨ret_int HK.out, bel_trans hb0 (below_drewN hbel _)⟩
      · have HK : Hid ((-1 : Int) = B) := by rw [← hk]; exact (badN_end k _ _ (by rw [HZ.out]; omega) (by rw [HL.out]; omega)).symm
        clear hk
        go_wp2
        all_goals go_ret
        all_goals exact ⟨ret_int HK.out, bel_trans hb0 hbel⟩

end Go.Proofs.Ytjohhlmgcjpjeaa
