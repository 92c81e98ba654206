/- SumChecks: for every string and every list of numbers of 32 bits: the statement's function returns true; nothing that was there is changed. No condition (a string is at most as long as the row's reach lets it be). -/
import Derived.Test.YtjohhlmgcjpjeaaSumOpen
import Derived.Test.YtjohhlmgcjpjeaaSumEx
import Derived.Test.YtjohhlmgcjpjeaaSumRowR
namespace Go.Proofs.Ytjohhlmgcjpjeaa.sumChecks
open Go.ChangeShapes Go.WideShapes Go.ChangeAt Go.RowKit
open Go.ChangeMaps (open_string shut_string)
set_option linter.unusedVariables false

theorem own : ownKnob Try.prog.godebug = none := by kernel_rfl

set_option maxRecDepth 100000 in
set_option maxHeartbeats 1000000 in
theorem walk_b (s : ByteArray) (a : Option Addr) (b off cap L : Nat) (ls : List Int) (w : World) (hs : s.size ≤ 140737488355328) (hL : ls.length = L) (hl : L ≤ maxLen) (hI : Ints w .u32 a b off ls) :
    Calls Try.prog 3 #[.string s, .slice a L cap] w fun e w' => e = .returned (.bool true) ∧ Below w.heap.size w w' := by
  have HI : Hid _ := hI
  have HL : Hid _ := hL
  have Hl : Hid _ := hl
  have hN := sumZ_nat s.data.toList
  obtain ⟨N, hNN⟩ : ∃ N, sumN s.data.toList = N := ⟨_, rfl⟩
  obtain ⟨B, hB⟩ : ∃ B, badN 0 (chunkZ s) ls = B := ⟨_, rfl⟩
  have HN : Hid _ := hNN
  have HB : Hid _ := hB
  have hsm : s.size ≤ maxLen := by unfold maxLen; omega
  clear hI hL hl hN hNN hB
  go_enter Try.func3, Try.ntmps3
  go_wp2_with fail
  refine (examples2_any _).mono ?_
  rintro e w1 ⟨rfl, b1⟩
  go_wp2_with fail
  refine (chunks_any s _ hs).mono ?_
  rintro e w2 ⟨g, n, rfl, hown, b2⟩
  go_wp2_with fail
  refine (refChunks_val s _ hs).mono ?_
  rintro e w3 ⟨a3, n3, cap3, g3, rfl, h31, h32, h33, b3⟩
  have hown3 := own_below hown b3
  obtain ⟨hn, a2, cap2, g2, hv, hI2, _⟩ := own_ints hown3
  simp only [Value.slice.injEq] at hv
  obtain ⟨rfl, hn', rfl⟩ := hv
  obtain rfl : n3 = n := by omega
  have HZ : Hid _ := h31
  clear hn hn' h31
  go_wp2_with fail
  refine (sums_same _ _ g2 0 n3 g3 0 cap3 n3 n3 (chunkZ s) (chunkZ s) _ HZ.out HZ.out (by unfold maxLen; omega) hI2 h33 rfl).mono ?_
  rintro e w4 ⟨rfl, b4⟩
  have hown4 := own_below hown3 b4
  have bb := bel_trans (bel_trans (bel_trans b1 b2) b3) b4
  have hb1 := b1.size
  have HO : Hid (∃ xs, w4.ownsRow w1.heap.size 26 1 (.slice (some ⟨g, 0, none⟩) n3 n3) n3 xs) := ⟨_, hown4⟩
  clear hown hown3 hown4 hI2 h33 b1 b2 b3 b4
  go_wp2
  go_loopw [8] (fun c wr => ∃ k : Nat, k ≤ n3 ∧ c = .int .i64 k ∧ (∃ xs, wr.ownsRow w1.heap.size 26 1 (.slice (some ⟨g, 0, none⟩) n3 n3) n3 xs) ∧ Below w.heap.size w wr) (fun c _ => n3 - (intOf c).toNat)
  case atStart => exact ⟨0, by omega, rfl, HO.out, bb⟩
  case round =>
    obtain ⟨k, hk, rfl, ⟨xs, hown⟩, hbel⟩ := hrel
    clear HO bb
    by_cases hlt : k < n3
    · have hfz := hown.frozenAt k
      have hxl := hown.1
      have hcl : ∃ u, wr.cell? ⟨g, k, none⟩ = some u := ⟨_, (hown.cellAt k (by omega)).trans (List.getElem?_eq_getElem (by omega))⟩
      obtain ⟨u, hcl⟩ := hcl
      obtain ⟨hst, hgr⟩ := hown.stored k (.int .u32 0)
      have hbel2 := hbel.grown hgr hbel.size (by
        intro j hj
        have := hown.lt j hj
        omega)
      have HX : Hid (∃ xs, (wr.setCell ⟨g, k, none⟩ (.int .u32 0)).ownsRow w1.heap.size 26 1 (.slice (some ⟨g, 0, none⟩) n3 n3) n3 xs) := ⟨_, hst⟩
      clear hown hbel hgr hst hxl
      go_wp2
      go_roundw
      case rel => exact ⟨k + 1, by omega, by go_num, HX.out, hbel2⟩
      case measure => simp [intOf]; omega
    · clear hown
      go_wp2_with fail
      refine (chunks_val s _ hs).mono ?_
      rintro e w5 ⟨a5, n5, cap5, g5, rfl, h51, h52, h53, b5⟩
      have H51 : Hid _ := h51
      clear h51
      go_wp2_with fail
      refine (refChunks_val s _ hs).mono ?_
      rintro e w6 ⟨a6, n6, cap6, g6, rfl, h61, h62, h63, b6⟩
      have H61 : Hid _ := h61
      clear h61
      go_wp2_with fail
      refine (sums_same _ _ g5 0 cap5 g6 0 cap6 n5 n6 (chunkZ s) (chunkZ s) _ H51.out H61.out (by unfold maxLen; omega) (h53.below b6) h63 rfl).mono ?_
      rintro e w7 ⟨rfl, b7⟩
      clear h53 h63 H51 H61 h52 h62
      go_wp2_with fail
      refine (sum_nat s N _ hsm HN.out).mono ?_
      rintro e w8 ⟨rfl, rfl⟩
      go_wp2_with fail
      refine (refSum_nat s N _ hsm HN.out).mono ?_
      rintro e w9 ⟨rfl, rfl⟩
      have bb := bel_trans (bel_trans (bel_trans hbel b5) b6) b7
      go_wp2_with fail
      refine (bad_val s a b off cap L ls B _ hs HL.out Hl.out (HI.out.below bb) HB.out).mono ?_
      rintro e w10 ⟨rfl, b8⟩
      have bb2 := bel_trans bb b8
      go_wp2_with fail
      refine (refBad_any s a b off cap L ls B _ hs HL.out Hl.out (HI.out.below bb2) HB.out).mono ?_
      rintro e w11 ⟨rfl, b9⟩
      have bb3 := bel_trans bb2 b9
      clear hbel b5 b6 b7 bb bb2 b8 b9
      go_wp2
      go_ret
      exact ⟨rfl, bb3⟩

theorem walk (s : ByteArray) (a : Option Addr) (b off cap : Nat) (ls : List Int) (w : World) (hs : s.size ≤ maxLen) (hI : Ints w .u32 a b off ls ∧ ls.length ≤ maxLen ∧ ∀ n ∈ ls, (Lit.int .u32 n).wf = true) (z : s.size ≤ 140737488351232) :
    Calls Try.prog 3 #[.string s, .slice a ls.length cap] w fun e w' => e = .returned (.bool true) ∧ Below w.heap.size w w' :=
  walk_b s a b off cap ls.length ls w (by omega) rfl hI.2.1 hI.1

set_option maxRecDepth 100000 in
theorem lifted (os : Os) (started : os.Started) (H : Type) (enc : TypeId × Value → H) :
    ReturnsInHanded {} Try.checked os 3 .any (Rows.sumChecksSpec.pre6 enc Try.prog Try.f3 Rows.sumChecksRow.domain false) (Rows.sumChecksSpec.post enc Try.prog Try.f3 false true false false) := by
  refine returnsInHanded_of_change_sized (C := Try.checked) own started (by kernel_rfl) Try.func3
    (ChangeSpec.witness6 (enc := enc) (C := Try.checked) false ⟨#[], #[.string ByteArray.empty, .slice none 0 0], []⟩ 8 (by kernel_rfl) (by kernel_rfl) (by kernel_rfl) (by kernel_rfl)) ?_
  intro W base args ds gs before hval0 hW hcnd hsz0 _
  have hval : ∀ (j : Nat) t v, Try.f3.params[j]? = some t → args[j]? = some v → Value.okWide Try.prog W .any base t v := hval0
  have hW' := hW
  obtain ⟨p, q, hA0, hV, rfl, hfz, hnd⟩ := hW
  have hA : DataW.TrodAll enc Try.prog W 0 (fun _ => true) true Try.f3.params.toList args.toList ds p := hA0
  have hsz : (DataW.weightsEach Try.prog (Try.f3.params.toList ++ Rows.sumChecksSpec.plain.varTypes Try.prog) (ds ++ gs)).all (· ≤ reachBytes) = true := hsz0
  rw [Try.params3] at hA hval hsz
  obtain ⟨v0, vs0, d0, ds0, p0, q0, hargs, rfl, rfl, h0, r0⟩ := trodAll_cons hA
  obtain ⟨v1, vs1, d1, ds1, p1, q1, rfl, rfl, rfl, h1, r1⟩ := trodAll_cons r0
  obtain ⟨rfl, rfl, rfl⟩ := trodAll_nil r1
  obtain rfl : args = #[v0, v1] := by cases args; simp_all
  obtain ⟨rfl, rfl⟩ := trodVars_none hV
  obtain ⟨a0, rfl, rfl, rfl, w0⟩ := open_string Try.underlying9 (hval 0 9 v0 rfl rfl) h0
  obtain ⟨a1, len1, cap1, rfl⟩ := okWide_slice Try.underlying22 (hval 1 22 v1 rfl rfl)
  have k1 := h1
  have lt1 : ∀ x ∈ p1, x.block < W.heap.size := by obtain ⟨m, hm⟩ := k1; exact DataW.trod_lt m _ _ _ hm
  obtain ⟨b1, off1, ss1, rfl, w1⟩ := open_nums Try.underlying22 Try.underlying26 (by kernel_rfl) h1
  have z0 : a0.size ≤ 140737488351232 := by have h := sized_string hsz (j := 0) (t := 9) rfl rfl; rw [Array.length_toList] at h; exact h
  clear hA0 hval0
  refine (walk a0 a1 b1 off1 cap1 ss1 W w0 w1 z0).mono fun e W' ⟨he, bel⟩ => ?_
  subst he
  exact ⟨_, rfl, _, _, _, [], _, [], hW', trodAll_mk1 (shut_bool Try.underlying4 _), (trodAll_cons_mk (shut_string Try.underlying9 w0) (trodAll_cons_mk (Below.trod laidOut (by kernel_rfl) (of_decide_eq_true (by kernel_rfl)) k1 bel lt1) trodAll_mk0)), rfl, bel.frame _, fun h => by cases h⟩

theorem over : Rows.sumChecksRow.holds Try.pinned (OpenSpec.ofChange Rows.sumChecksSpec) :=
  OpenClaim.holds_of_wide 3 Try.f3 rfl rfl rfl rfl rfl rfl rfl ⟨rfl, rfl, rfl, rfl, rfl⟩ rfl rfl rfl rfl rfl (by kernel_rfl) Try.func3 (by kernel_rfl)
    (of_decide_eq_true (by kernel_rfl)) (by unfold Func.isWrapper; first | (rw [if_pos (by decide +kernel)]; kernel_rfl) | (rw [if_neg (by decide +kernel)]; exact ⟨rfl, rfl⟩))
    (fun os started H enc _ => lifted os started H enc)
end Go.Proofs.Ytjohhlmgcjpjeaa.sumChecks

namespace Go.Proofs.Ytjohhlmgcjpjeaa
/-- The statement. -/
theorem sumChecks_holds : Rows.SumChecksSaid := sumChecks.over
#print axioms sumChecks_holds
end Go.Proofs.Ytjohhlmgcjpjeaa
